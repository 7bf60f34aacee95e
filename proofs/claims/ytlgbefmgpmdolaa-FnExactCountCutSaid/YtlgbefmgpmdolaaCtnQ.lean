/-
  Merged texts: Ctn Cts.
-/
import Derived.Test.YtlgbefmgpmdolaaTakQ
import Derived.Test.YtlgbefmgpmdolaaNumsQ

/-
  Plans counted by their rooms: the program. (Walks.)
-/
namespace Go.Proofs.Ytlgbefmgpmdolaa
open Go.RowKit Go.Shelf

/-- whether all plans of a size may be asked -/
def frOk (n m : Int) : Bool := l6B n 1 6 && l6B m 1 6 && decide (n * m ≤ 9)
theorem frOk_dims {n m : Int} (h : frOk n m = true) : ∃ a b : Nat, n = (a : Int) ∧ m = (b : Int) ∧ 1 ≤ a ∧ a ≤ 6 ∧ 1 ≤ b ∧ b ≤ 6 ∧ a * b ≤ 9 := by
  unfold frOk l6B at h
  simp only [Bool.and_eq_true, decide_eq_true_eq] at h
  obtain ⟨⟨h1, h2⟩, h3⟩ := h
  obtain ⟨a, rfl⟩ := Int.eq_ofNat_of_zero_le (show 0 ≤ n by omega)
  obtain ⟨b, rfl⟩ := Int.eq_ofNat_of_zero_le (show 0 ≤ m by omega)
  exact ⟨a, b, rfl, rfl, by omega, by omega, by omega, by omega, by exact_mod_cast h3⟩
def frC (n m : Int) : Array Value := if frOk n m = true then #[.int .i64 n, .int .i64 m] else #[.int .i64 0, .int .i64 0]
set_option maxRecDepth 100000 in
theorem readFrame_any (n m : Int) (w : World) : Calls Try.prog 44 #[.int .i64 n, .int .i64 m] w
    fun e w' => e = .returned (.tuple #[.agg (frC n m), .bool (frOk n m)]) ∧ Below w.heap.size w w' := by
  have hb := fun C => below_alloc w (.cells C 58)
  have fin0 : frOk n m = false → frC n m = #[.int .i64 0, .int .i64 0] := fun h => by unfold frC; rw [h]; rfl
  by_cases h0 : n < 1
  · have hno : frOk n m = false := by unfold frOk l6B; simp; omega
    have hd0 : decide (n < 1) = true := decide_eq_true h0
    rw [fin0 hno, hno]
    clear fin0 hno
    go_enter Try.func44, Try.ntmps44
    go_wp2
    refine bodyPost_ret (v := .tuple #[.agg #[.int .i64 0, .int .i64 0], .bool false]) (by simp [results, Try.results44, go_sem]) rfl ⟨rfl, ?_⟩
    exact hb _
  have hd0 : decide (n < 1) = false := decide_eq_false h0
  by_cases h1 : n > 6
  · have hno : frOk n m = false := by unfold frOk l6B; simp; omega
    have hd1 : decide (n > 6) = true := decide_eq_true h1
    rw [fin0 hno, hno]
    clear fin0 hno
    go_enter Try.func44, Try.ntmps44
    go_wp2
    refine bodyPost_ret (v := .tuple #[.agg #[.int .i64 0, .int .i64 0], .bool false]) (by simp [results, Try.results44, go_sem]) rfl ⟨rfl, ?_⟩
    exact hb _
  have hd1 : decide (n > 6) = false := decide_eq_false h1
  by_cases h2 : m < 1
  · have hno : frOk n m = false := by unfold frOk l6B; simp; omega
    have hd2 : decide (m < 1) = true := decide_eq_true h2
    rw [fin0 hno, hno]
    clear fin0 hno
    go_enter Try.func44, Try.ntmps44
    go_wp2
    refine bodyPost_ret (v := .tuple #[.agg #[.int .i64 0, .int .i64 0], .bool false]) (by simp [results, Try.results44, go_sem]) rfl ⟨rfl, ?_⟩
    exact hb _
  have hd2 : decide (m < 1) = false := decide_eq_false h2
  by_cases h3 : m > 6
  · have hno : frOk n m = false := by unfold frOk l6B; simp; omega
    have hd3 : decide (m > 6) = true := decide_eq_true h3
    rw [fin0 hno, hno]
    clear fin0 hno
    go_enter Try.func44, Try.ntmps44
    go_wp2
    refine bodyPost_ret (v := .tuple #[.agg #[.int .i64 0, .int .i64 0], .bool false]) (by simp [results, Try.results44, go_sem]) rfl ⟨rfl, ?_⟩
    exact hb _
  have hd3 : decide (m > 6) = false := decide_eq_false h3
  obtain ⟨a, rfl⟩ := Int.eq_ofNat_of_zero_le (show 0 ≤ n by omega)
  obtain ⟨b, rfl⟩ := Int.eq_ofNat_of_zero_le (show 0 ≤ m by omega)
  have ha : a ≤ 6 := by omega
  have hb' : b ≤ 6 := by omega
  have hm36 : a * b ≤ 36 := Nat.mul_le_mul ha hb'
  have hmc : ((a * b : Nat) : Int) = (a : Int) * (b : Int) := Int.natCast_mul _ _
  by_cases h9 : a * b ≤ 9
  · have hyes : frOk (a : Int) (b : Int) = true := by unfold frOk l6B; simp; omega
    have fin1 : frC (a : Int) (b : Int) = #[.int .i64 (a : Int), .int .i64 (b : Int)] := by unfold frC; rw [hyes]; rfl
    have hd9 : decide ((a : Int) * (b : Int) > 9) = false := by rw [decide_eq_false_iff_not]; omega
    rw [fin1, hyes]
    clear fin0 fin1 hyes hmc h9
    go_enter Try.func44, Try.ntmps44
    go_wp2
    refine bodyPost_ret (v := .tuple #[.agg #[.int .i64 (a : Int), .int .i64 (b : Int)], .bool true]) (by simp [results, Try.results44, go_sem]) rfl ⟨rfl, ?_⟩
    exact hb _
  · have hno : frOk (a : Int) (b : Int) = false := by unfold frOk l6B; simp; omega
    have hd9 : decide ((a : Int) * (b : Int) > 9) = true := by rw [decide_eq_true_eq]; omega
    rw [fin0 hno, hno]
    clear fin0 hno hmc h9
    go_enter Try.func44, Try.ntmps44
    go_wp2
    refine bodyPost_ret (v := .tuple #[.agg #[.int .i64 0, .int .i64 0], .bool false]) (by simp [results, Try.results44, go_sem]) rfl ⟨rfl, ?_⟩
    exact hb _

set_option maxRecDepth 100000 in
theorem cellsF_any (h wd : Nat) (hm : h * wd ≤ 36) (w : World) : Calls Try.prog 64 #[.agg #[.int .i64 (h : Int), .int .i64 (wd : Int)]] w fun e w' => e = .returned (.int .i64 ((h * wd : Nat) : Int)) ∧ Below w.heap.size w w' := by
  have hb := below_alloc w (.cells #[.int .i64 (h : Int), .int .i64 (wd : Int)] 58)
  by_cases h0 : wd = 0
  · subst h0
    go_enter Try.func64, Try.ntmps64
    go_wp2
    go_ret
    exact ⟨by simp, hb⟩
  · have hh : h ≤ 36 := Nat.le_trans (Nat.le_mul_of_pos_right h (by omega)) hm
    have hmc : ((h * wd : Nat) : Int) = (h : Int) * (wd : Int) := Int.natCast_mul _ _
    by_cases h1 : h = 0
    · subst h1
      go_enter Try.func64, Try.ntmps64
      go_wp2
      go_ret
      exact ⟨by simp, hb⟩
    · have hw : wd ≤ 36 := Nat.le_trans (Nat.le_mul_of_pos_left wd (by omega)) hm
      have HMC := Lib.hid hmc
      clear hmc
      go_enter Try.func64, Try.ntmps64
      go_wp2
      go_ret
      exact ⟨by rw [HMC.out]; rfl, hb⟩

/-- how many plans as asked have so many rooms -/
def cntQ (q : List ByteArray → Bool) (h wd r : Nat) : Nat := (allZ h wd).countP fun y => q (txtZ h wd y.2) && decide (y.1 = r)
def cntL (q : List ByteArray → Bool) (h wd : Nat) : List Nat := (List.range (h * wd + 1)).map (cntQ q h wd)
theorem cntL_len (q : List ByteArray → Bool) (h wd : Nat) : (cntL q h wd).length = h * wd + 1 := by simp [cntL]
theorem asked_count (q : List ByteArray → Bool) (h wd r : Nat) : ((asked q h wd (allZ h wd)).map (·.1)).count r = cntQ q h wd r := by
  unfold asked cntQ
  rw [List.count_eq_countP, List.countP_map, List.countP_filter]
  refine List.countP_congr fun y _ => ?_
  simp only [Function.comp_apply, Bool.and_eq_true, beq_iff_eq, decide_eq_true_eq]
  constructor
  · rintro ⟨a, b⟩; exact ⟨b, a⟩
  · rintro ⟨a, b⟩; exact ⟨b, a⟩
/-- the first numbers filled in -/
def fillS (f : Nat → Nat) (n k : Nat) : List Nat := (List.range n).map fun r => if r < k then f r else 0
theorem fillS_len (f : Nat → Nat) (n k : Nat) : (fillS f n k).length = n := by simp [fillS]
theorem fillS_zero (f : Nat → Nat) (n : Nat) : fillS f n 0 = List.replicate n 0 := by
  unfold fillS
  apply List.ext_getElem
  · simp
  · intro i h1 h2; simp
theorem fillS_all (f : Nat → Nat) (n : Nat) : fillS f n n = (List.range n).map f := by
  unfold fillS
  refine List.map_congr_left fun r hr => ?_
  rw [if_pos (List.mem_range.1 hr)]
theorem fillS_put (f : Nat → Nat) {n k : Nat} (_hk : k < n) : (fillS f n k).set k (f k) = fillS f n (k + 1) := by
  unfold fillS
  apply List.ext_getElem
  · simp
  · intro i h1 h2
    rw [List.getElem_set]
    by_cases e : k = i
    · subst e; simp
    · rw [if_neg e]
      simp only [List.getElem_map, List.getElem_range]
      by_cases q : i < k
      · rw [if_pos q, if_pos (by omega)]
      · rw [if_neg q, if_neg (by omega)]
theorem leaves_few {q : List ByteArray → Bool} {h wd : Nat} (d1 : 1 ≤ h) (d6 : h ≤ 6) (e1 : 1 ≤ wd) (e6 : wd ≤ 6) (h9 : h * wd ≤ 9) : (∀ x ∈ asked q h wd (allZ h wd), x.1 ≤ 9) ∧ (asked q h wd (allZ h wd)).length ≤ 1000000 :=
  ⟨fun _ hx => (leaf d1 d6 e1 e6 h9 (List.mem_filter.1 hx).1).few, Nat.le_trans (List.length_filter_le _ _) (allZ_few d6 e6 h9)⟩

/-- the numbers told-/
def ctR (q : List ByteArray → Bool) (n m : Int) : List Int := if frOk n m = true then intsL (cntL q n.toNat m.toNat) else []
theorem frOk_of {h wd : Nat} (d1 : 1 ≤ h) (d6 : h ≤ 6) (e1 : 1 ≤ wd) (e6 : wd ≤ 6) (h9 : h * wd ≤ 9) : frOk (h : Int) (wd : Int) = true ∧ frC (h : Int) (wd : Int) = #[.int .i64 (h : Int), .int .i64 (wd : Int)] := by
  have hmc : ((h * wd : Nat) : Int) = (h : Int) * (wd : Int) := Int.natCast_mul _ _
  have : frOk (h : Int) (wd : Int) = true := by unfold frOk l6B; simp; omega
  exact ⟨this, by unfold frC; rw [this]; rfl⟩

end Go.Proofs.Ytlgbefmgpmdolaa

/-
  Plans counted by their rooms: the model. (Walks.)
-/
namespace Go.Proofs.Ytlgbefmgpmdolaa
open Go.RowKit

set_option maxRecDepth 100000 in
theorem l10Given_any (n m : Int) (w : World) : Calls Try.prog 30 #[.int .i64 n, .int .i64 m] w fun e w' => e = .returned (.bool (frOk n m)) ∧ w' = w := by
  have HL := Lib.hid (fun a w => l6In_any a 1 6 w)
  unfold frOk
  cases h1 : l6B n 1 6
  · have H1 := Lib.hid (fun w => by have := HL.out n w; rw [h1] at this; exact this)
    rw [Bool.false_and, Bool.false_and]
    clear HL h1
    go_enter Try.func30, Try.ntmps30
    go_wp2_with (go_at_call 38; refine (H1.out _).mono ?_; rintro e w1 ⟨rfl, rfl⟩)
    go_ret
    exact ⟨rfl, rfl⟩
  · cases h2 : l6B m 1 6
    · by_cases hnm : n = m
      · subst hnm; rw [h1] at h2; cases h2
      have H1 := Lib.hid (fun w => by have := HL.out n w; rw [h1] at this; exact this)
      have H2 := Lib.hid (fun w => by have := HL.out m w; rw [h2] at this; exact this)
      rw [Bool.and_false, Bool.false_and]
      clear HL h1 h2
      go_enter Try.func30, Try.ntmps30
      go_wp2_with fail
      refine (H1.out _).mono ?_
      rintro e w1 ⟨rfl, rfl⟩
      go_wp2_with fail
      refine (H2.out _).mono ?_
      rintro e w1 ⟨rfl, rfl⟩
      go_wp2
      go_ret
      exact ⟨rfl, rfl⟩
    · have H1 := Lib.hid (fun w => by have := HL.out n w; rw [h1] at this; exact this)
      have H2 := Lib.hid (fun w => by have := HL.out m w; rw [h2] at this; exact this)
      unfold l6B at h1 h2
      simp [decide_eq_true_eq] at h1 h2
      obtain ⟨a, rfl⟩ := Int.eq_ofNat_of_zero_le (show 0 ≤ n by omega)
      obtain ⟨b, rfl⟩ := Int.eq_ofNat_of_zero_le (show 0 ≤ m by omega)
      have ha : a ≤ 6 := by omega
      have hb' : b ≤ 6 := by omega
      have hm36 : a * b ≤ 36 := Nat.mul_le_mul ha hb'
      rw [Bool.true_and, Bool.true_and]
      have HD := Lib.hid (show decide ((a : Int) * (b : Int) ≤ 9) = decide ((a : Int) * (b : Int) ≤ 9) from rfl)
      clear HL h1 h2
      go_enter Try.func30, Try.ntmps30
      go_wp2_with fail
      refine (H1.out _).mono ?_
      rintro e w1 ⟨rfl, rfl⟩
      go_wp2_with fail
      refine (H2.out _).mono ?_
      rintro e w1 ⟨rfl, rfl⟩
      go_wp2
      go_ret
      exact ⟨rfl, rfl⟩

/-- plans counted along a list of texts -/
def cntT (q : List ByteArray → Bool) (L : List (List ByteArray)) (r : Nat) : Nat := L.countP fun p => q p && decide (gridR p = r)
def cntTL (q : List ByteArray → Bool) (n : Nat) (L : List (List ByteArray)) : List Nat := (List.range n).map (cntT q L)
theorem cntTL_len (q : List ByteArray → Bool) (n : Nat) (L : List (List ByteArray)) : (cntTL q n L).length = n := by simp [cntTL]
theorem cntTL_at {q : List ByteArray → Bool} {n : Nat} (L : List (List ByteArray)) {r : Nat} (h : r < n) : (cntTL q n L).getD r 0 = cntT q L r := by simp [cntTL, h]
theorem cntTL_nil (q : List ByteArray → Bool) (n : Nat) : cntTL q n [] = List.replicate n 0 := by
  unfold cntTL cntT
  apply List.ext_getElem
  · simp
  · intro i h1 h2; simp
theorem cntT_snoc (q : List ByteArray → Bool) (L : List (List ByteArray)) (p : List ByteArray) (r : Nat) : cntT q (L ++ [p]) r = cntT q L r + if (q p && decide (gridR p = r)) = true then 1 else 0 := by
  unfold cntT
  rw [List.countP_append, List.countP_singleton]
theorem cntTL_no {q : List ByteArray → Bool} (n : Nat) (L : List (List ByteArray)) {p : List ByteArray} (hq : q p = false) : cntTL q n (L ++ [p]) = cntTL q n L := by
  unfold cntTL
  refine List.map_congr_left fun r _ => ?_
  rw [cntT_snoc, hq]; simp
theorem cntTL_put {q : List ByteArray → Bool} {n : Nat} (L : List (List ByteArray)) {p : List ByteArray} (hq : q p = true) : (cntTL q n L).set (gridR p) (cntT q L (gridR p) + 1) = cntTL q n (L ++ [p]) := by
  unfold cntTL
  apply List.ext_getElem
  · simp
  · intro i h1 h2
    rw [List.getElem_set]
    simp only [List.getElem_map, List.getElem_range]
    rw [cntT_snoc, hq]
    by_cases e : gridR p = i
    · subst e; simp
    · rw [if_neg e]; simp [e]
theorem cntT_le (q : List ByteArray → Bool) (L : List (List ByteArray)) (r : Nat) : cntT q L r ≤ L.length := List.countP_le_length
theorem cntQ_texts {q : List ByteArray → Bool} {h wd : Nat} (d1 : 1 ≤ h) (d6 : h ≤ 6) (e1 : 1 ≤ wd) (e6 : wd ≤ 6) (h9 : h * wd ≤ 9) : cntTL q (h * wd + 1) (lstT h wd (allZ h wd)) = cntL q h wd := by
  unfold cntTL cntL
  refine List.map_congr_left fun r _ => ?_
  unfold cntT cntQ lstT
  rw [List.countP_map]
  refine List.countP_congr fun y hy => ?_
  have := (leaf d1 d6 e1 e6 h9 hy).rooms
  simp only [Function.comp_apply]
  rw [this]
theorem leaf_rooms {h wd : Nat} (d1 : 1 ≤ h) (d6 : h ≤ 6) (e1 : 1 ≤ wd) (e6 : wd ≤ 6) (h9 : h * wd ≤ 9) {i : Nat} (hi : i < (lstT h wd (allZ h wd)).length) : gridR ((lstT h wd (allZ h wd)).getD i []) ≤ h * wd := by
  have : (lstT h wd (allZ h wd)).getD i [] ∈ lstT h wd (allZ h wd) := by simp [hi]
  unfold lstT at this ⊢
  obtain ⟨y, hy, e⟩ := List.mem_map.1 this
  rw [← e, (leaf d1 d6 e1 e6 h9 hy).rooms]
  have := (allZ_full hy).1.num
  omega
/-- a list of all plans stays where a number elsewhere is stored -/
theorem AllAt.put {w : World} {g : Nat} {us : List Value} {h wd G k : Nat} {S : Array Value} (A : AllAt w g us h wd) (hG : HeldB w G 3 S) (hne : g ≠ G) (v : Value) : AllAt (w.setCell ⟨G, k, none⟩ v) g us h wd := by
  refine ⟨fun i u hu => ?_, A.plans.kept fun b cur hb => ?_⟩
  · obtain ⟨b, off, e, hc⟩ := A.cells i u hu
    cases e
    exact ⟨g, 0, rfl, by rw [← hc]; exact World.cell?_setCell_other _ _ _ _ (by intro e; cases e; exact hne rfl)⟩
  · refine Below.heap_setCell w ⟨G, k, none⟩ v b (fun e => ?_)
    simp only at e
    subst e
    rw [show w.heap[b]? = _ from hG] at hb
    simp at hb

theorem ctR_few (q : List ByteArray → Bool) (n m : Int) : (ctR q n m).length ≤ 1048576 := by
  unfold ctR
  cases h : frOk n m
  · exact Nat.zero_le _
  · obtain ⟨a, b, rfl, rfl, a1, a6, b1, b6, h9⟩ := frOk_dims h
    rw [if_pos rfl, intsL_len, cntL_len]
    simp only [Int.toNat_natCast]
    omega
end Go.Proofs.Ytlgbefmgpmdolaa
