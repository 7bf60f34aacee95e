
/-
  Merged texts: ChamN NearL.
-/
import Derived.Test.YtkbgkkempooplaaCham
import Derived.Test.YtkbgkkempooplaaNears

/-
  How many pairs of neighbours there are, and a room's neighbours: the program's answers. (Walks.)
-/
namespace Go.Proofs.Ytkbgkkempooplaa
open Go.RowKit

theorem edges_apart (h wd : Nat) (g : Nat → Nat → Nat) : ∀ e ∈ edgesL g (wallsG h wd g), e.1 ≠ e.2 := fun e he => by
  unfold edgesL at he
  obtain ⟨x, hx, hex⟩ := List.mem_flatMap.1 he
  unfold edgesW edgesN at hex
  obtain ⟨t, ht, rfl⟩ := List.mem_map.1 hex
  have ht' := List.mem_range.1 ht
  obtain ⟨m1, m2, m3, m4, m5, m6⟩ := wallsG_mem hx
  have h3 := m6 (x.first + t) (by omega) (by omega)
  unfold wayF upF lvF at h3
  unfold sideA sideB
  rcases (show x.way = 0 ∨ x.way = 1 by omega) with hw0 | hw0
  · rw [hw0] at h3 ⊢
    simp only [if_true] at h3 ⊢
    rw [Bool.and_eq_true, decide_eq_true_eq, decide_eq_true_eq] at h3
    exact h3.2
  · rw [hw0] at h3 ⊢
    simp only [Nat.one_ne_zero, if_false] at h3 ⊢
    rw [Bool.and_eq_true, decide_eq_true_eq, decide_eq_true_eq] at h3
    exact h3.2
theorem nbF_self (p : List ByteArray) (a : Nat) : nbF p a a = 0 := by
  unfold nbF cntE
  rw [List.countP_eq_zero]
  intro e he
  have := edges_apart _ _ _ e he
  simp only [decide_eq_true_eq]
  rintro (rfl | rfl) <;> exact this rfl
theorem nbF_symm (p : List ByteArray) (a b : Nat) : nbF p a b = nbF p b a := by
  unfold nbF cntE
  refine List.countP_congr fun e _ => ?_
  simp only [decide_eq_true_eq]
  exact Or.comm
theorem nbF_bes {p : List ByteArray} (h : planB p = true) (a b : Nat) : nbF p a b = besN p (a : Int) (b : Int) := by
  by_cases hab : a = b
  · subst hab
    rw [nbF_self]
    exact (if_pos rfl).symm
  · exact nbF_eq h hab
theorem lnk_count (n : Nat) (f : Nat → Nat) : (lnk n f).length = (List.range n).countP fun b => decide (0 < f b) := by
  unfold lnk lnkL
  rw [List.length_map, List.countP_eq_length_filter]
theorem pairN_cnt {p : List ByteArray} (h : planB p = true) (a n : Nat) : pairN p a n = (List.range n).countP fun b => decide (0 < nbF p a b) := by
  unfold pairN
  refine List.countP_congr fun b _ => ?_
  rw [nbF_bes h]
theorem of_links {p : List ByteArray} (h : planB p = true) (a n : Nat) : ofL p (a : Int) n = (lnk n (nbF p a)).map fun x => ((x.1 : Nat) : Int) := by
  unfold ofL lnk lnkL
  rw [List.map_map]
  have h1 : ((List.range n).filter fun (b : Nat) => decide (0 < besN p (a : Int) (b : Int))) = (List.range n).filter fun b => decide (0 < nbF p a b) := List.filter_congr fun b _ => by rw [nbF_bes h]
  rw [h1]; rfl
/-- of a symmetric question, asked of all pairs: twice that of the pairs one way -/
theorem cnt_twice (s : Nat → Nat → Bool) (hs : ∀ a b, s a b = s b a) (h0 : ∀ a, s a a = false) : ∀ n, sumN n (fun a => (List.range n).countP (s a)) = 2 * sumN n (fun a => (List.range a).countP (s a))
  | 0 => rfl
  | n + 1 => by
    have ih := cnt_twice s hs h0 n
    show sumN n (fun a => (List.range (n + 1)).countP (s a)) + (List.range (n + 1)).countP (s n) = 2 * (sumN n (fun a => (List.range a).countP (s a)) + (List.range n).countP (s n))
    have h1 : sumN n (fun a => (List.range (n + 1)).countP (s a)) = sumN n (fun a => (List.range n).countP (s a)) + sumN n (fun a => if s a n = true then 1 else 0) := by
      rw [← sumN_add]
      refine sumN_congr fun a _ => ?_
      rw [List.range_succ, List.countP_append, List.countP_singleton]
    have h2 : sumN n (fun a => if s a n = true then 1 else 0) = (List.range n).countP (s n) := by
      have : ∀ m, sumN m (fun a => if s a n = true then 1 else 0) = (List.range m).countP (s n) := fun m => by
        induction m with
        | zero => rfl
        | succ m ih => rw [List.range_succ, List.countP_append, List.countP_singleton, ← ih, hs n m]; rfl
      exact this n
    have h3 : (List.range (n + 1)).countP (s n) = (List.range n).countP (s n) := by
      rw [List.range_succ, List.countP_append, List.countP_singleton, h0]; rfl
    rw [h1, h2, h3, ih]; omega
/-- all links of the first rooms -/
def lnksN (p : List ByteArray) (n i : Nat) : Nat := sumN i fun a => (lnk n (nbF p a)).length
theorem lnksN_succ (p : List ByteArray) (n i : Nat) : lnksN p n (i + 1) = lnksN p n i + (lnk n (nbF p i)).length := rfl
theorem lnksN_le (p : List ByteArray) (n : Nat) : ∀ i, lnksN p n i ≤ i * n
  | 0 => Nat.zero_le _
  | i + 1 => by rw [lnksN_succ, Nat.succ_mul]; have := lnk_len n (nbF p i); have := lnksN_le p n i; omega
theorem lnks_pairs {p : List ByteArray} (h : planB p = true) (n : Nat) : lnksN p n n = 2 * pairsN p n := by
  unfold lnksN pairsN
  have h1 := cnt_twice (fun a b => decide (0 < nbF p a b)) (fun a b => by rw [nbF_symm]) (fun a => by rw [nbF_self]; rfl) n
  rw [show (fun a => (lnk n (nbF p a)).length) = fun a => (List.range n).countP (fun b => decide (0 < nbF p a b)) from funext fun a => lnk_count n _, h1]
  congr 1
  exact sumN_congr fun a _ => (pairN_cnt h a a).symm

theorem getD_take1 {L : List (Nat × Nat)} {i : Nat} (h : i < L.length) : (L.take (i + 1)).map (fun x => ((x.1 : Nat) : Int)) = (L.take i).map (fun x => ((x.1 : Nat) : Int)) ++ [(((L.getD i (0, 0)).1 : Nat) : Int)] := by
  rw [take_succ_getD L i (0, 0) h, List.map_append]; rfl

set_option maxRecDepth 100000 in
set_option maxHeartbeats 4000000 in
theorem implNearOf_any (ao : Option Addr) (cap : Nat) (p : List ByteArray) (a : Int) (w : World) (hl : p.length ≤ 1048576) (hs : ∀ s ∈ p, s.size ≤ 1048576) (hc : CellsAt w ao (p.map Value.string)) :
    Calls Try.prog 14 #[.slice ao p.length cap, .int .i64 a] w
      fun e w' => NumsRet w.heap.size (nearL p a) (givenB p a) e w' ∧ Below w.heap.size w w' := by
  obtain ⟨im, hmi, hmz, hm1, hm2⟩ := info_parts Try.infoNum
  have hlit : CellsAt (w.alloc (.cells #[.int .i64 a] 3)) (some ⟨w.heap.size, 0, none⟩) ([a].map (Value.int .i64)) := CellsAt.alloc_lit w [.int .i64 a] 3
  have hcl := hc.below (below_alloc w (.cells #[.int .i64 a] 3))
  have hbl := below_alloc w (.cells #[.int .i64 a] 3)
  have hask : askB p [a] = givenB p a := by
    rw [given_isRm]
    unfold askB
    cases planB p
    · rfl
    · simp only [List.any_cons, List.any_nil]
      cases isRm (gridR p) a <;> rfl
  cases hq : askB p [a]
  · have h0 : nearL p a = [] := by unfold nearL; rw [← hask, hq]; rfl
    have HR := Lib.hid (readChambers_no ao cap p _ 1 [a] _ hl hs hcl (by simp) hlit hq)
    rw [h0, ← hask, hq]
    clear h0 hask hq hlit hcl
    go_enter Try.func14, Try.ntmps14
    go_wp2_with (go_at_call 28; refine (HR.out).mono ?_; rintro e w1 ⟨rfl, hb1⟩)
    go_ret2
    exact ⟨⟨none, 0, rfl, ⟨rfl, .inl ⟨rfl, rfl⟩⟩⟩, hbl.trans (hb1.mono (by simp))⟩
  · have HR := Lib.hid (readChambers_yes ao cap p _ 1 [a] _ hl hs hcl (by simp) hlit hq)
    have hq' := hq
    rw [hask] at hq'
    have qa := hq'
    have hp : planB p = true := by rw [given_isRm, Bool.and_eq_true] at qa; exact qa.1
    have ra := qa
    rw [given_isRm, hp, Bool.true_and, isRm_iff] at ra
    have hn9 := (planP_of hp).few
    obtain ⟨a', rfl⟩ : ∃ a' : Nat, a = (a' : Int) := ⟨a.toNat, by omega⟩
    have ha' : a' < gridR p := by omega
    have h0 : nearL p (a' : Int) = (lnk (gridR p) (nbF p a')).map fun x => ((x.1 : Nat) : Int) := by unfold nearL; rw [hq', if_pos rfl, of_links hp]
    rw [h0, hq']
    have hlk := lnk_len (gridR p) (nbF p a')
    have HMEM := Lib.hid (fun (i : Nat) (hi : i < (lnk (gridR p) (nbF p a')).length) => (lnk_mem (getD_mem (0, 0) hi)).1)
    unfold Linked at HR
    clear h0 hask hlit hcl qa hq hq' hp hl hs hc
    generalize nbF p = f at *
    generalize gridR p = n at *
    obtain ⟨L, hL⟩ : ∃ L, lnk n (f a') = L := ⟨_, rfl⟩
    rw [hL] at HMEM hlk
    rw [hL]
    have HL := Lib.hid hL
    clear hL
    go_enter Try.func14, Try.ntmps14
    go_wp2_with (go_at_call 28; refine (HR.out).mono ?_; rintro e w1 ⟨Rb, c, Q, rfl, y1, ⟨so, sc, y2⟩, y3, y4, y5⟩; have hpc := ptr_cell y1 ha'; have hcc : w1.cell? ⟨Q + a', 1, none⟩ = some (.slice (so a') L.length (sc a')) := by { have := (y2.1 a' ha').cell 1; rw [HL.out] at this; exact this }; have HC := Lib.hid y2; clear y1 y2)
    have hbw : Below w.heap.size w w1 := hbl.trans (y5.mono (by simp))
    have HCL := Lib.hid (show CellsAt w1 (so a') (lnkC Q L) by have := ownsK_cells (HC.out.2.1 a' ha'); rw [HL.out] at this; exact this)
    have HRM := Lib.hid (show rms w1 Q L by have := HC.out.rms a'; rw [HL.out] at this; exact this)
    have HIN := Lib.hid (fun (i : Nat) (hi : i < L.length) => (getD_mem (0, 0) hi : L.getD i (0, 0) ∈ L))
    clear HC hpc hcc y5 hbl HL
    generalize so a' = sa at *
    generalize sc a' = ca at *
    have HTK := Lib.hid (fun i (hi : i < L.length) => getD_take1 hi)
    have HTL := Lib.hid (show L.take L.length = L from List.take_length)
    have HT0 := Lib.hid (show (L.take 0).map (fun x => ((x.1 : Nat) : Int)) = [] from rfl)
    have HTN := Lib.hid (fun i (hi : i ≤ L.length) => show ((L.take i).map (fun x => ((x.1 : Nat) : Int))).length = i by rw [List.length_map, List.length_take]; omega)
    go_loopw [8, 28] (fun vr vi wr => ∃ (i : Nat) (ro : Option Addr) (rc : Nat), i ≤ L.length ∧ vi = .int .i64 i ∧ vr = .slice ro i rc ∧ wr.ownsRow w1.heap.size 3 1 (.slice ro i rc) i (((L.take i).map (fun x => ((x.1 : Nat) : Int))).map (Value.int .i64)) ∧ Below w1.heap.size w1 wr) (fun _ vi _ => L.length - (intOf vi).toNat)
    case atStart => exact ⟨0, none, 0, Nat.zero_le _, rfl, rfl, ⟨rfl, .inl ⟨rfl, rfl⟩⟩, Below.refl _ _⟩
    case round =>
      obtain ⟨i, ro, rc, hi, rfl, rfl, hown, hq⟩ := hrel
      by_cases hlt : i < L.length
      · have hlt' : decide ((i : Int) < (L.length : Int)) = true := by rw [decide_eq_true_eq]; omega
        obtain ⟨bb, off, rfl, hrg⟩ := lnk_range (HCL.out.below hq) hlt
        have hcx := HRM.out.below hq _ (HIN.out i hlt)
        have HK := Lib.hid (HTK.out i hlt)
        obtain ⟨X, hX⟩ : ∃ X, L.getD i (0, 0) = X := ⟨_, rfl⟩
        rw [hX] at hrg hcx HK
        obtain ⟨x, m⟩ := X
        simp only at hcx HK
        have hbX := HeldB.new wr 53 (lnkC1 Q (x, m)).toArray
        have c0 : (wr.alloc (.cells (lnkC1 Q (x, m)).toArray 53)).cell? ⟨wr.heap.size, 0, none⟩ = some (.pointer (some ⟨Q + x, 0, none⟩)) := (hbX.cell 0).trans rfl
        have cx : (wr.alloc (.cells (lnkC1 Q (x, m)).toArray 53)).cell? ⟨Q + x, 0, none⟩ = some (.int .i64 (x : Nat)) := cell_below hcx (below_alloc wr _)
        have hqs := hq.size
        have h63 : i + 1 ≤ maxLen := by unfold maxLen; omega
        have h64 : (i + 1) * 8 ≤ 140737488355328 := by omega
        have hown1 := hown.alloc (.cells (lnkC1 Q (x, m)).toArray 53)
        have hq1 : Below w1.heap.size w1 (wr.alloc (.cells (lnkC1 Q (x, m)).toArray 53)) := hq.alloc hqs _
        have hlo := owns_lt hown
        have hzl : (Try.prog.info? 53).map (·.size) = some (lnkC1 Q (x, m)).toArray.size := by kernel_rfl
        have HZL := Lib.hid hzl
        have HON := Lib.hid (show (lnkC1 Q (x, m)).toArray.all (·.oneCell') = true by rw [Array.all_eq_true_iff_forall_mem]; intro v hv; exact lnk_one Q _ v (by simpa using hv))
        have HRG := Lib.hid hrg
        clear hX hbX hown hq hzl hrg hcx
        go_wp2_with (first
          | (refine wpList_load_mid rfl 53 _ rfl bb (off + i * 2) rfl (lnkC1 Q (x, m)) _ HRG.out Try.underlying53 rfl Try.sizeLnk ?_)
          | (refine wpList_store_new rfl 53 _ _ rfl _ #[.pointer none, .int .i64 0] (lnkC1 Q (x, m)).toArray rfl rfl rfl HZL.out rfl HON.out ?_)
          | (at_builtin; refine wpList_push _ rfl (.tmp 32) (.tmp 38) 30 rfl w1.heap.size 3 im (.int .i64 0) 8 Try.underlying30 hmi hmz hm1 hm2 rfl ro i rc _ rfl (hown1.alloc _) _ _ _ rfl (cell_new2 _ _ _ _) rfl h63 h64 (by simp; omega) ?_; intro ro2 rc2 w4 hrow2 hg2 hnew2))
        have hq4 := below_push hq1 (by have := hq1.size; omega) hg2 (fun a ha => (hlo a ha).1)
        go_roundw
        case rel => exact ⟨i + 1, ro2, rc2, by omega, by go_num, by go_num, by rw [HK.out, List.map_append]; exact hrow2, hq4⟩
        case measure => simp [intOf]; omega
      · obtain rfl : i = L.length := by omega
        have hlt' : decide ((L.length : Int) < (L.length : Int)) = false := by rw [decide_eq_false_iff_not]; omega
        rw [HTL.out] at hown
        go_wp2
        go_ret2
        have hfin : NumsRet w.heap.size (L.map fun x => ((x.1 : Nat) : Int)) true (.returned (.tuple #[.slice ro L.length rc, .bool true])) wr := by
          have hl : (L.map fun x => ((x.1 : Nat) : Int)).length = L.length := List.length_map _
          exact ⟨ro, rc, by rw [hl], by rw [hl]; exact ownsRow_base hown hbw.size⟩
        exact ⟨hfin, below_step hbw hbw.size hq⟩

end Go.Proofs.Ytkbgkkempooplaa

/-
  Neighbours of rooms: steps from cell to cell, how long two rooms lie beside each other. (Plain mathematics.)
-/
namespace Go.Proofs.Ytkbgkkempooplaa
open Go.RowKit

theorem sumN_pos {n : Nat} {f : Nat → Nat} {i : Nat} (hi : i < n) (h : 0 < f i) : 0 < sumN n f := by
  induction n with
  | zero => omega
  | succ n ih =>
    show 0 < sumN n f + f n
    by_cases he : i = n
    · subst he; omega
    · have := ih (by omega); omega
theorem sumN_some {n : Nat} {f : Nat → Nat} (h : 0 < sumN n f) : ∃ i, i < n ∧ 0 < f i := by
  induction n with
  | zero => simp [sumN] at h
  | succ n ih =>
    have h' : 0 < sumN n f + f n := h
    by_cases he : 0 < f n
    · exact ⟨n, by omega, he⟩
    · obtain ⟨i, hi, h2⟩ := ih (by omega); exact ⟨i, by omega, h2⟩

/-- what holds of a cell and goes from cell to cell holds of all -/
theorem grid_conn {h wd : Nat} {P : Nat → Nat → Prop} (hr : ∀ i j, i < h → j + 1 < wd → (P i j ↔ P i (j + 1))) (hc : ∀ i j, i + 1 < h → j < wd → (P i j ↔ P (i + 1) j)) {i0 j0 : Nat} (hi0 : i0 < h) (hj0 : j0 < wd) (h0 : P i0 j0) :
    ∀ i j, i < h → j < wd → P i j := by
  have row : ∀ i, i < h → ∀ j, j < wd → (P i j ↔ P i 0) := fun i hi j => by
    induction j with
    | zero => exact fun _ => Iff.rfl
    | succ j ih => exact fun hj => (hr i j hi hj).symm.trans (ih (by omega))
  have col : ∀ i, i < h → (P i 0 ↔ P 0 0) := fun i => by
    induction i with
    | zero => exact fun _ => Iff.rfl
    | succ i ih => exact fun hi => (hc i 0 hi (by omega)).symm.trans (ih (by omega))
  intro i j hi hj
  rw [row i hi j hj, col i hi, ← col i0 hi0, ← row i0 hi0 j0 hj0]
  exact h0

/-- two rooms' cells beside each other in a row -/
def hitG (G : Nat → Nat → Nat) (a b i k : Nat) : Bool := decide ((G i (k - 1) = a ∧ G i k = b) ∨ (G i (k - 1) = b ∧ G i k = a))
/-- how many -/
def hitsG (G : Nat → Nat → Nat) (h wd a b : Nat) : Nat := sumN h fun i => sumN (wd - 1) fun t => if hitG G a b i (t + 1) = true then 1 else 0
theorem besN_hits {p : List ByteArray} (h : planB p = true) {a b : Nat} (hab : a ≠ b) : besN p (a : Int) (b : Int) = hitsG (gridG p) p.length (wideB p) a b + hitsG (fun j i => gridG p i j) (wideB p) p.length a b := by
  have hp := planP_of h
  have hne : ¬ ((a : Int) = (b : Int)) := by omega
  have w1 := hp.grid.w1; have h1 := hp.grid.h1
  unfold besN hitsG
  rw [if_neg hne]
  congr 1
  · unfold lenL rowL
    refine sumN_congr fun i hi => sumN_congr fun t ht => ?_
    rw [hit_eq (by rw [Nat.add_sub_cancel]; exact letter_roomC hp hi (by omega)) (letter_roomC hp hi (show t + 1 < wideB p by omega))]
    unfold hitG
    simp only [Nat.add_sub_cancel]
  · unfold lenL rowL
    rw [transB_wide w1]
    refine sumN_congr fun j hj => sumN_congr fun t ht => ?_
    rw [hit_eq (by rw [Nat.add_sub_cancel, trans_byte hj (by omega)]; exact letter_roomC hp (by omega) hj) (by rw [trans_byte hj (by omega)]; exact letter_roomC hp (show t + 1 < p.length by omega) hj)]
    unfold hitG
    simp only [Nat.add_sub_cancel]
theorem besN_symm {p : List ByteArray} (h : planB p = true) (a b : Nat) : besN p (a : Int) (b : Int) = besN p (b : Int) (a : Int) := by
  rw [← nbF_bes h, ← nbF_bes h, nbF_symm]
theorem near_row {p : List ByteArray} (h : planB p = true) {i j : Nat} (hi : i < p.length) (hj : j + 1 < wideB p) (hne : gridG p i j ≠ gridG p i (j + 1)) : 0 < besN p (gridG p i j : Nat) (gridG p i (j + 1) : Nat) := by
  rw [besN_hits h hne]
  have : 0 < hitsG (gridG p) p.length (wideB p) (gridG p i j) (gridG p i (j + 1)) := by
    unfold hitsG
    refine sumN_pos hi (sumN_pos (i := j) (by omega) ?_)
    rw [if_pos]
    · exact Nat.zero_lt_one
    · unfold hitG; rw [decide_eq_true_eq]; exact .inl ⟨by rw [Nat.add_sub_cancel], rfl⟩
  omega
theorem near_col {p : List ByteArray} (h : planB p = true) {i j : Nat} (hi : i + 1 < p.length) (hj : j < wideB p) (hne : gridG p i j ≠ gridG p (i + 1) j) : 0 < besN p (gridG p i j : Nat) (gridG p (i + 1) j : Nat) := by
  rw [besN_hits h hne]
  have : 0 < hitsG (fun j i => gridG p i j) (wideB p) p.length (gridG p i j) (gridG p (i + 1) j) := by
    unfold hitsG
    refine sumN_pos hj (sumN_pos (i := i) (by omega) ?_)
    rw [if_pos]
    · exact Nat.zero_lt_one
    · unfold hitG; rw [decide_eq_true_eq]; exact .inl ⟨by rw [Nat.add_sub_cancel], rfl⟩
  omega
theorem grid_room {p : List ByteArray} (h : planB p = true) {i j : Nat} (hi : i < p.length) (hj : j < wideB p) : gridG p i j < gridR p := by
  have hp := planP_of h
  rw [← hp.mark i j hi hj]; exact hp.lt hi hj
/-- a set of rooms that no neighbour leads out of has all rooms, or none -/
theorem rooms_conn {p : List ByteArray} (h : planB p = true) {S : Nat → Prop} (hS : ∀ a b, a < gridR p → b < gridR p → 0 < besN p (a : Int) (b : Int) → S a → S b) {a : Nat} (ha : a < gridR p) (h0 : S a) : ∀ b, b < gridR p → S b := by
  have hp := planP_of h
  obtain ⟨_, hbox⟩ := hp.boxes
  have cell : ∀ r, r < gridR p → ∃ i j, i < p.length ∧ j < wideB p ∧ gridG p i j = r := fun r hr => by
    obtain ⟨x, _, _, x1, x2, x3, x4, x5⟩ := hbox r hr
    refine ⟨x.row, x.col, by omega, by omega, ?_⟩
    rw [← hp.mark _ _ (by omega) (by omega)]
    exact (x5 _ _ (by omega) (by omega)).2 (by unfold InR; omega)
  have go : ∀ i j i' j', i < p.length → j < wideB p → i' < p.length → j' < wideB p → (gridG p i j ≠ gridG p i' j' → 0 < besN p (gridG p i j : Nat) (gridG p i' j' : Nat)) → (S (gridG p i j) ↔ S (gridG p i' j')) := fun i j i' j' hi hj hi' hj' hb => by
    by_cases he : gridG p i j = gridG p i' j'
    · rw [he]
    · exact ⟨hS _ _ (grid_room h hi hj) (grid_room h hi' hj') (hb he), hS _ _ (grid_room h hi' hj') (grid_room h hi hj) (by rw [besN_symm h]; exact hb he)⟩
  obtain ⟨i0, j0, hi0, hj0, e0⟩ := cell a ha
  have all := grid_conn (h := p.length) (wd := wideB p) (P := fun i j => S (gridG p i j)) (fun i j hi hj => go i j i (j + 1) hi (by omega) hi hj (fun hne => near_row h hi hj hne)) (fun i j hi hj => go i j (i + 1) j (by omega) hj hi hj (fun hne => near_col h hi hj hne)) hi0 hj0 (by rw [e0]; exact h0)
  intro b hb
  obtain ⟨i, j, hi, hj, e⟩ := cell b hb
  rw [← e]; exact all i j hi hj
/-- of more rooms than one each one has a neighbour -/
theorem has_near {p : List ByteArray} (h : planB p = true) {a : Nat} (ha : a < gridR p) (h2 : gridR p ≠ 1) : ∃ b, b < gridR p ∧ 0 < besN p (a : Int) (b : Int) := by
  refine Classical.byContradiction fun hno => ?_
  have := rooms_conn h (S := fun r => r = a) (fun x y hx hy hb hxa => by subst hxa; exact absurd ⟨y, hy, hb⟩ hno) ha rfl
  by_cases h0 : a = 0
  · have := this 1 (by omega); omega
  · have := this 0 (by omega); omega

/-- a room's neighbours, by their place in the list -/
theorem ofL_mem {p : List ByteArray} {a : Int} {n : Nat} {x : Int} (h : x ∈ ofL p a n) : ∃ b : Nat, x = (b : Int) ∧ b < n ∧ 0 < besN p a (b : Int) := by
  unfold ofL at h
  obtain ⟨b, hb, rfl⟩ := List.mem_map.1 h
  obtain ⟨h1, h2⟩ := List.mem_filter.1 hb
  exact ⟨b, rfl, List.mem_range.1 h1, by simpa using h2⟩
theorem ofL_asc (p : List ByteArray) (a : Int) (n : Nat) : (ofL p a n).Pairwise (· < ·) := by
  unfold ofL
  rw [List.pairwise_map]
  refine List.Pairwise.filter _ ?_
  exact (List.pairwise_lt_range (n := n)).imp fun h => by omega
theorem ofL_none {p : List ByteArray} (h : planB p = true) {a : Nat} (ha : a < gridR p) : (ofL p (a : Int) (gridR p)).length = 0 ↔ gridR p = 1 := by
  constructor
  · intro h0
    refine Classical.byContradiction fun h1 => ?_
    obtain ⟨b, hb, hn⟩ := has_near h ha h1
    have : (b : Int) ∈ ofL p (a : Int) (gridR p) := by
      unfold ofL
      exact List.mem_map.2 ⟨b, List.mem_filter.2 ⟨List.mem_range.2 hb, by simpa using hn⟩, rfl⟩
    rw [List.length_eq_zero_iff.1 h0] at this
    simp at this
  · intro h1
    rw [List.length_eq_zero_iff]
    rw [List.eq_nil_iff_forall_not_mem]
    intro x hx
    obtain ⟨b, rfl, hb, hn⟩ := ofL_mem hx
    have : (a : Int) = (b : Int) := by omega
    unfold besN at hn
    rw [if_pos this] at hn
    omega

/-- all cells at which two rooms lie beside each other in rows stand in one column, one a row -/
theorem hits_le {G : Nat → Nat → Nat} {h wd a b : Nat} {xr xc xh xw yr yc yh yw : Nat} (hab : a ≠ b) (hx : ∀ i j, i < h → j < wd → (G i j = a ↔ InR xr xc xh xw i j)) (hy : ∀ i j, i < h → j < wd → (G i j = b ↔ InR yr yc yh yw i j))
    (x1 : xr + xh ≤ h) (x2 : xc + xw ≤ wd) (y2 : yc + yw ≤ wd) : hitsG G h wd a b ≤ xh ∧ (0 < hitsG G h wd a b → yc = xc + xw ∨ xc = yc + yw) := by
  have hit : ∀ i t, i < h → t + 1 < wd → hitG G a b i (t + 1) = true → (xr ≤ i ∧ i < xr + xh) ∧ ((t + 1 = xc + xw ∧ yc = xc + xw) ∨ (t + 1 = xc ∧ xc = yc + yw)) := fun i t hi ht hh => by
    unfold hitG at hh
    rw [decide_eq_true_eq, Nat.add_sub_cancel] at hh
    have q1 := hx i t hi (by omega); have q2 := hx i (t + 1) hi ht; have q3 := hy i t hi (by omega); have q4 := hy i (t + 1) hi ht
    unfold InR at q1 q2 q3 q4
    rcases hh with ⟨e1, e2⟩ | ⟨e1, e2⟩
    · have n2 : ¬ G i (t + 1) = a := by omega
      have n3 : ¬ G i t = b := by omega
      have r1 := q1.1 e1; have r4 := q4.1 e2
      have r2 := fun hh => n2 (q2.2 hh); have r3 := fun hh => n3 (q3.2 hh)
      omega
    · have n1 : ¬ G i t = a := by omega
      have n4 : ¬ G i (t + 1) = b := by omega
      have r3 := q3.1 e1; have r2 := q2.1 e2
      have r1 := fun hh => n1 (q1.2 hh); have r4 := fun hh => n4 (q4.2 hh)
      omega
  refine ⟨?_, fun hpos => ?_⟩
  · have hb : hitsG G h wd a b ≤ sumN h fun i => if xr ≤ i ∧ i < xr + xh then 1 else 0 := by
      unfold hitsG
      refine sumN_le fun i hi => ?_
      by_cases hz : 0 < sumN (wd - 1) fun t => if hitG G a b i (t + 1) = true then 1 else 0
      · obtain ⟨t, ht, h1⟩ := sumN_some hz
        have h1' : hitG G a b i (t + 1) = true := by
          by_cases hh : hitG G a b i (t + 1) = true
          · exact hh
          · rw [if_neg hh] at h1; omega
        obtain ⟨r1, r2⟩ := hit i t hi (by omega) h1'
        rw [if_pos r1]
        have : sumN (wd - 1) (fun t => if hitG G a b i (t + 1) = true then 1 else 0) ≤ sumN (wd - 1) fun s => if t ≤ s ∧ s < t + 1 then 1 else 0 := by
          refine sumN_le fun s hs => ?_
          by_cases hh : hitG G a b i (s + 1) = true
          · obtain ⟨_, s2⟩ := hit i s hi (by omega) hh
            rw [if_pos hh, if_pos (by omega)]; exact Nat.le_refl _
          · rw [if_neg hh]; exact Nat.zero_le _
        rw [sumN_interval (wd - 1) t 1 1 (by omega)] at this
        exact this
      · omega
    rw [sumN_interval h xr xh 1 x1] at hb
    omega
  · obtain ⟨i, hi, h1⟩ := sumN_some hpos
    obtain ⟨t, ht, h2⟩ := sumN_some h1
    have h3 : hitG G a b i (t + 1) = true := by
      by_cases hh : hitG G a b i (t + 1) = true
      · exact hh
      · rw [if_neg hh] at h2; omega
    rcases (hit i t hi (by omega) h3).2 with q | q
    · exact .inl q.2
    · exact .inr q.2
/-- no more cells than a side of either room has -/
theorem besN_side {p : List ByteArray} (h : planB p = true) {a b : Nat} (hab : a ≠ b) {x y : Bx} (hx : BoxOf p a x) (hy : BoxOf p b y) : besN p (a : Int) (b : Int) ≤ max x.high x.wide := by
  have hp := planP_of h
  obtain ⟨_, x1, x2, x3, x4, x5⟩ := hx
  obtain ⟨_, y1, y2, y3, y4, y5⟩ := hy
  have gx : ∀ i j, i < p.length → j < wideB p → (gridG p i j = a ↔ InR x.row x.col x.high x.wide i j) := fun i j hi hj => by rw [← hp.mark i j hi hj]; exact x5 i j hi hj
  have gy : ∀ i j, i < p.length → j < wideB p → (gridG p i j = b ↔ InR y.row y.col y.high y.wide i j) := fun i j hi hj => by rw [← hp.mark i j hi hj]; exact y5 i j hi hj
  obtain ⟨a1, a2⟩ := hits_le hab gx gy x3 x4 y4
  obtain ⟨b1, b2⟩ := hits_le (G := fun j i => gridG p i j) (h := wideB p) (wd := p.length) (xr := x.col) (xc := x.row) (xh := x.wide) (xw := x.high) (yr := y.col) (yc := y.row) (yh := y.wide) (yw := y.high) hab
    (fun j i hj hi => by rw [gx i j hi hj]; unfold InR; omega) (fun j i hj hi => by rw [gy i j hi hj]; unfold InR; omega) x4 x3 y3
  rw [besN_hits h hab]
  by_cases h1 : 0 < hitsG (gridG p) p.length (wideB p) a b
  · by_cases h2 : 0 < hitsG (fun j i => gridG p i j) (wideB p) p.length a b
    · exfalso
      obtain ⟨i, hi, q1⟩ := sumN_some h1
      obtain ⟨t, ht, q2⟩ := sumN_some q1
      have q3 : hitG (gridG p) a b i (t + 1) = true := by
        by_cases hh : hitG (gridG p) a b i (t + 1) = true
        · exact hh
        · rw [if_neg hh] at q2; omega
      unfold hitG at q3
      rw [decide_eq_true_eq, Nat.add_sub_cancel] at q3
      have r1 := a2 h1; have r2 := b2 h2
      rcases q3 with ⟨e1, e2⟩ | ⟨e1, e2⟩
      · have z1 := (gx i t hi (by omega)).1 e1; have z2 := (gy i (t + 1) hi (by omega)).1 e2
        unfold InR at z1 z2; omega
      · have z1 := (gy i t hi (by omega)).1 e1; have z2 := (gx i (t + 1) hi (by omega)).1 e2
        unfold InR at z1 z2; omega
    · omega
  · omega

/-- a room's box, as the plan tells it -/
theorem room_box {p : List ByteArray} {n : Int} (h : givenB p n = true) : ∃ (k : Nat) (x : Bx), n = (k : Int) ∧ k < gridR p ∧ BoxOf p k x ∧ roomV p n = ⟨(x.row : Nat), (x.col : Nat), (x.high : Nat), (x.wide : Nat)⟩ ∧ x.high ≤ 6 ∧ x.wide ≤ 6 := by
  have h0 := h
  rw [given_isRm, Bool.and_eq_true, isRm_iff] at h
  obtain ⟨hp, h1, h2⟩ := h
  have hP := planP_of hp
  obtain ⟨k, rfl⟩ : ∃ k : Nat, n = (k : Int) := ⟨n.toNat, by omega⟩
  obtain ⟨_, hbox⟩ := hP.boxes
  have hk : k < gridR p := by omega
  obtain ⟨x, _, hx⟩ := hbox k hk
  have hx0 := hx
  obtain ⟨_, a1, a2, a3, a4, _⟩ := hx0
  have h6 := hP.grid.h6; have w6 := hP.grid.w6
  refine ⟨k, x, rfl, hk, hx, ?_, by omega, by omega⟩
  rw [roomV_yes h0, boxB_box hP hx]
  simp only [Box4.mk.injEq, true_and]
  omega

end Go.Proofs.Ytkbgkkempooplaa
