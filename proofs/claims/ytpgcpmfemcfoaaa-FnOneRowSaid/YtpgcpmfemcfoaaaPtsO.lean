/-
  Merged texts: Pt PtsM.
-/
import Derived.Test.YtpgcpmfemcfoaaaLongO
import Derived.Test.YtpgcpmfemcfoaaaWallsO

/-
  Points of a plan: the program's small functions. (Walks.)
-/
namespace Go.Proofs.Ytpgcpmfemcfoaaa
open Go.RowKit

/-- the cells of a point -/
def ptC (x : Nat × Nat) : Array Value := #[.int .i64 (x.1 : Nat), .int .i64 (x.2 : Nat)]
theorem ptC_size (x : Nat × Nat) : (ptC x).size = 2 := rfl
theorem ptC_one (x : Nat × Nat) : (ptC x).all (·.oneCell') = true := by
  rw [Array.all_eq_true_iff_forall_mem]
  intro v hv
  unfold ptC at hv
  simp only [List.mem_toArray, List.mem_cons, List.not_mem_nil, or_false] at hv
  rcases hv with rfl | rfl <;> rfl
theorem pt_size (x : Nat × Nat) : (Try.prog.info? 147).map (·.size) = some (ptC x).size := by rw [ptC_size]; kernel_rfl
/-- the point of a wall's line ahead of a cell -/
def ptAt (X : Wl) (i : Nat) : Nat × Nat := if X.way = 0 then (i, X.line) else (X.line, i)

/-- a point, handed back -/
theorem results_pt {fn : Func} {p : Tmp} (h : fn.results = #[.cell p 147]) {tmps : Array Value} {w : World} {B : Nat} {x : Nat × Nat}
    (hp : tmps.getD p undef = .pointer (some ⟨B, 0, none⟩)) (hB : HeldB w B 147 (ptC x)) :
    (results fn tmps).run Try.prog w = .ok (.agg (ptC x)) w :=
  results_cell_row h tmps w B 147 (ptC x) (0, 0) _ (by rw [hp]) hB Try.underlying147 rfl (by rw [ptC_size]; kernel_rfl)

set_option maxRecDepth 100000 in
set_option maxHeartbeats 1000000 in
theorem pointAt_any (X : Wl) (i : Nat) (w : World) :
    Calls Try.prog 125 #[.agg (wlC X), .int .i64 i] w
      fun e w' => e = .returned (.agg (ptC (ptAt X i))) ∧ Below w.heap.size w w' := by
  by_cases hw : X.way = 0
  · have hb : ((X.way : Int) == 0) = true := by simp [hw]
    have HP := Lib.hid (show ptAt X i = (i, X.line) from if_pos hw)
    have bX := (HeldB.new w 108 (wlC X)).alloc (.cells #[.int .i64 0, .int .i64 0] 147)
    have bZ : HeldB ((w.alloc (.cells (wlC X) 108)).alloc (.cells #[.int .i64 0, .int .i64 0] 147)) (w.heap.size + 1) 147 (ptC (0, 0)) := by
      have := HeldB.new (w.alloc (.cells (wlC X) 108)) 147 (ptC (0, 0))
      rwa [World.size_alloc] at this
    have c0 : World.cell? _ _ = some (.int .i64 (X.way : Nat)) := bX.cell 0
    have c1 : World.cell? _ _ = some (.int .i64 (X.line : Nat)) := bX.cell 1
    clear hw
    go_enter Try.func125, Try.ntmps125
    go_wp2_with (refine wpList_store_row rfl 147 _ _ rfl (w.heap.size + 1) (ptC (i, X.line)) rfl rfl 147 (ptC (0, 0)) bZ (pt_size _) rfl (ptC_one _) ?_)
    refine bodyPost_ret (v := .agg (ptC (i, X.line))) (results_pt Try.results125 rfl (bZ.setRow _)) rfl ⟨by rw [HP.out], ?_⟩
    exact below_setRowB (((Below.refl _ w).alloc (Nat.le_refl _) _).alloc (by simp) _) (by omega) _
  · have hb : ((X.way : Int) == 0) = false := by rw [beq_eq_false_iff_ne]; omega
    have HP := Lib.hid (show ptAt X i = (X.line, i) from if_neg hw)
    have bX := (HeldB.new w 108 (wlC X)).alloc (.cells #[.int .i64 0, .int .i64 0] 147)
    have bZ : HeldB ((w.alloc (.cells (wlC X) 108)).alloc (.cells #[.int .i64 0, .int .i64 0] 147)) (w.heap.size + 1) 147 (ptC (0, 0)) := by
      have := HeldB.new (w.alloc (.cells (wlC X) 108)) 147 (ptC (0, 0))
      rwa [World.size_alloc] at this
    have c0 : World.cell? _ _ = some (.int .i64 (X.way : Nat)) := bX.cell 0
    have c1 : World.cell? _ _ = some (.int .i64 (X.line : Nat)) := bX.cell 1
    clear hw
    go_enter Try.func125, Try.ntmps125
    go_wp2_with (refine wpList_store_row rfl 147 _ _ rfl (w.heap.size + 1) (ptC (X.line, i)) rfl rfl 147 (ptC (0, 0)) bZ (pt_size _) rfl (ptC_one _) ?_)
    refine bodyPost_ret (v := .agg (ptC (X.line, i))) (results_pt Try.results125 rfl (bZ.setRow _)) rfl ⟨by rw [HP.out], ?_⟩
    exact below_setRowB (((Below.refl _ w).alloc (Nat.le_refl _) _).alloc (by simp) _) (by omega) _

/-- a point lies at the outline -/
def outB (h wd : Nat) (x : Nat × Nat) : Bool := decide (x.1 = 0) || decide (x.1 = h) || decide (x.2 = 0) || decide (x.2 = wd)

set_option maxRecDepth 100000 in
set_option maxHeartbeats 2000000 in
theorem isOutline_any (h wd r : Nat) (g : Nat → Nat → Nat) (x : Nat × Nat) (w : World) :
    Calls Try.prog 98 #[.agg (planC h wd r g), .agg (ptC x)] w
      fun e w' => e = .returned (.bool (outB h wd x)) ∧ Below w.heap.size w w' := by
  obtain ⟨a, b⟩ := x
  have hp0 : (planC h wd r g)[0]? = some (.int .i64 (h : Nat)) := rfl
  have hp1 : (planC h wd r g)[1]? = some (.int .i64 (wd : Nat)) := rfl
  generalize planC h wd r g = C at *
  have bC := (HeldB.new w 47 C).alloc (.cells (ptC (a, b)) 147)
  have bX : HeldB ((w.alloc (.cells C 47)).alloc (.cells (ptC (a, b)) 147)) (w.heap.size + 1) 147 (ptC (a, b)) := by
    have := HeldB.new (w.alloc (.cells C 47)) 147 (ptC (a, b))
    rwa [World.size_alloc] at this
  have c0 : World.cell? _ _ = some (.int .i64 (h : Nat)) := (bC.cell 0).trans hp0
  have c1 : World.cell? _ _ = some (.int .i64 (wd : Nat)) := (bC.cell 1).trans hp1
  have x0 : World.cell? _ _ = some (.int .i64 (a : Nat)) := bX.cell 0
  have x1 : World.cell? _ _ = some (.int .i64 (b : Nat)) := bX.cell 1
  have hB : Below w.heap.size w ((w.alloc (.cells C 47)).alloc (.cells (ptC (a, b)) 147)) := ((Below.refl _ w).alloc (Nat.le_refl _) _).alloc (by simp) _
  unfold outB
  by_cases h1 : a = 0
  · have e1 : ((a : Int) == 0) = true := by simp [h1]
    have HO := Lib.hid (show (decide (a = 0) || decide (a = h) || decide (b = 0) || decide (b = wd)) = true by simp [h1])
    clear h1
    go_enter Try.func98, Try.ntmps98
    go_wp2
    go_ret
    exact ⟨by rw [HO.out]; rfl, hB⟩
  · have e1 : ((a : Int) == 0) = false := by rw [beq_eq_false_iff_ne]; omega
    by_cases h2 : a = h
    · have e2 : ((a : Int) == (h : Int)) = true := by simp [h2]
      have HO := Lib.hid (show (decide (a = 0) || decide (a = h) || decide (b = 0) || decide (b = wd)) = true by simp [h2])
      clear h1 h2
      go_enter Try.func98, Try.ntmps98
      go_wp2
      go_ret
      exact ⟨by rw [HO.out]; rfl, hB⟩
    · have e2 : ((a : Int) == (h : Int)) = false := by rw [beq_eq_false_iff_ne]; omega
      by_cases h3 : b = 0
      · have e3 : ((b : Int) == 0) = true := by simp [h3]
        have HO := Lib.hid (show (decide (a = 0) || decide (a = h) || decide (b = 0) || decide (b = wd)) = true by simp [h3])
        clear h1 h2 h3
        go_enter Try.func98, Try.ntmps98
        go_wp2
        go_ret
        exact ⟨by rw [HO.out]; rfl, hB⟩
      · have e3 : ((b : Int) == 0) = false := by rw [beq_eq_false_iff_ne]; omega
        have e4 : ((b : Int) == (wd : Int)) = decide (b = wd) := by
          rw [Bool.eq_iff_iff, beq_iff_eq, decide_eq_true_eq]; omega
        have HO := Lib.hid (show (decide (a = 0) || decide (a = h) || decide (b = 0) || decide (b = wd)) = decide (b = wd) by simp [h1, h2, h3])
        clear h1 h2 h3
        go_enter Try.func98, Try.ntmps98
        go_wp2
        go_ret
        exact ⟨ret_bool (by rw [HO.out]), hB⟩

end Go.Proofs.Ytpgcpmfemcfoaaa

/-
  Points that walls go through, and points where they end, counted. (Mathematics.)
-/
namespace Go.Proofs.Ytpgcpmfemcfoaaa

theorem count_span (s i : Nat) : ∀ n, ((List.range n).map fun t => s + t).count i = if s ≤ i ∧ i < s + n then 1 else 0
  | 0 => by rw [if_neg (by omega)]; rfl
  | n + 1 => by
    rw [List.range_succ, List.map_append, List.count_append, count_span s i n]
    simp only [List.map_cons, List.map_nil, List.count_singleton, beq_iff_eq]
    by_cases h1 : s ≤ i ∧ i < s + n
    · rw [if_pos h1, if_neg (show ¬ s + n = i by omega), if_pos (by omega)]
    · rw [if_neg h1]
      by_cases h2 : s + n = i
      · rw [if_pos h2, if_pos (by omega)]
      · rw [if_neg h2, if_neg (by omega)]

/-- the places that a run goes through, and those where it begins and ends -/
def innR (x : Nat × Nat) : List Nat := (List.range (x.2 - 1)).map fun t => x.1 + 1 + t
def endR (x : Nat × Nat) : List Nat := [x.1, x.1 + x.2]
theorem count_innR (x : Nat × Nat) (i : Nat) : (innR x).count i = if x.1 < i ∧ i < x.1 + x.2 then 1 else 0 := by
  unfold innR
  rw [count_span]
  by_cases h : x.1 < i ∧ i < x.1 + x.2
  · rw [if_pos h, if_pos (by omega)]
  · rw [if_neg h, if_neg (by omega)]
/-- the cell ahead of a place is of a run -/
def pv (f : Nat → Bool) (i : Nat) : Bool := decide (1 ≤ i) && f (i - 1)
theorem pv_iff {f : Nat → Bool} {i : Nat} : pv f i = true ↔ 1 ≤ i ∧ f (i - 1) = true := by unfold pv; simp
theorem downTo_self {f : Nat → Bool} {i : Nat} : downTo f i = i ↔ pv f i = false := by
  constructor
  · intro h
    cases hp : pv f i
    · rfl
    · obtain ⟨h1, h2⟩ := pv_iff.1 hp
      obtain ⟨k, rfl⟩ : ∃ k, i = k + 1 := ⟨i - 1, by omega⟩
      rw [Nat.add_sub_cancel] at h2
      rw [downTo_go h2] at h
      have := downTo_le f k
      omega
  · intro h
    refine downTo_here ?_
    rcases Nat.eq_zero_or_pos i with h' | h'
    · exact .inl h'
    · right
      cases hf : f (i - 1)
      · rfl
      · rw [pv_iff.2 ⟨h', hf⟩] at h; cases h
theorem downTo_pv {f : Nat → Bool} {i : Nat} (h : pv f i = true) : downTo f i < i := by
  rcases Nat.lt_or_ge (downTo f i) i with h' | h'
  · exact h'
  · have := downTo_le f i
    rw [downTo_self.1 (by omega)] at h; cases h

theorem inn_iff {f : Nat → Bool} {n t i : Nat} (hn : ∀ j, n ≤ j → f j = false) (h1 : f t = true) (h2 : downTo f t = t) : (t < i ∧ i < t + runFrom f n t) ↔ ((pv f i = true ∧ f i = true) ∧ downTo f i = t) := by
  have htn : t < n := by
    rcases Nat.lt_or_ge t n with h | h
    · exact h
    · rw [hn t h] at h1; cases h1
  constructor
  · rintro ⟨a, b⟩
    have hd : downTo f i = t := downTo_eq (by omega) (fun j c d => runFrom_all (n := n) c (by omega)) (fun h0 => by
      have := downTo_self.1 h2
      cases hf : f (t - 1)
      · rfl
      · rw [pv_iff.2 ⟨h0, hf⟩] at this; cases this)
    exact ⟨⟨pv_iff.2 ⟨by omega, runFrom_all (n := n) (s := t) (by omega) (by omega)⟩, runFrom_all (n := n) (s := t) (by omega) b⟩, hd⟩
  · rintro ⟨⟨a, b⟩, c⟩
    have h3 := downTo_pv a
    have hin : i < n := by
      rcases Nat.lt_or_ge i n with h | h
      · exact h
      · rw [hn i h] at b; cases b
    have h4 := runFrom_mid (f := f) (n := n) (s := t) (i := i) (by omega) (by omega) (fun k x y => downTo_all f i k (by omega) y)
    have h5 := runFrom_pos (f := f) (n := n) hin b
    omega
theorem line_inn {f : Nat → Bool} {n : Nat} (hn : ∀ j, n ≤ j → f j = false) (i : Nat) : ∀ t, ((lineW f n t).flatMap innR).count i = if (pv f i = true ∧ f i = true) ∧ downTo f i < t then 1 else 0
  | 0 => by rw [if_neg (by omega)]; rfl
  | t + 1 => by
    have ih := line_inn hn i t
    by_cases hs : f t = true ∧ downTo f t = t
    · rw [lineW_new hs.1 hs.2, List.flatMap_append, List.count_append, ih, List.flatMap_singleton, count_innR]
      have hk := inn_iff (i := i) hn hs.1 hs.2
      by_cases hc : pv f i = true ∧ f i = true
      · by_cases hd : downTo f i = t
        · rw [if_neg (by omega), if_pos (hk.2 ⟨hc, hd⟩), if_pos ⟨hc, by omega⟩]
        · rw [if_neg (fun h => hd (hk.1 h).2)]
          by_cases hl : downTo f i < t
          · rw [if_pos ⟨hc, hl⟩, if_pos ⟨hc, by omega⟩]
          · rw [if_neg (fun h => hl h.2), if_neg (fun h => by omega)]
      · rw [if_neg (fun h => hc h.1), if_neg (fun h => hc (hk.1 h).1), if_neg (fun h => hc h.1)]
    · have hl : lineW f n (t + 1) = lineW f n t := by
        show (if f t = true ∧ downTo f t = t then _ else _) = _
        rw [if_neg hs]
      rw [hl, ih]
      by_cases hc : (pv f i = true ∧ f i = true) ∧ downTo f i < t
      · rw [if_pos hc, if_pos ⟨hc.1, by omega⟩]
      · rw [if_neg hc, if_neg]
        rintro ⟨ha, hb⟩
        have hd : downTo f i = t := by
          rcases Nat.lt_or_ge (downTo f i) t with h | h
          · exact absurd ⟨ha, h⟩ hc
          · omega
        have h3 := downTo_pv ha.1
        refine hs ⟨downTo_all f i t (by omega) (by omega), ?_⟩
        refine downTo_here ?_
        rcases Nat.eq_zero_or_pos t with h | h
        · exact .inl h
        · exact .inr (by have := downTo_stop f i (by omega); rwa [hd] at this)
def b2n (b : Bool) : Nat := if b = true then 1 else 0
theorem line_inn_all {f : Nat → Bool} {n : Nat} (hn : ∀ j, n ≤ j → f j = false) (i : Nat) : ((lineW f n n).flatMap innR).count i = b2n (pv f i && f i) := by
  rw [line_inn hn i n]
  unfold b2n
  by_cases hc : pv f i = true ∧ f i = true
  · have : downTo f i < n := by
      have := downTo_pv hc.1
      rcases Nat.lt_or_ge i n with h | h
      · omega
      · rw [hn i h] at hc; cases hc.2
    rw [if_pos ⟨hc, this⟩, if_pos (by rw [hc.1, hc.2]; rfl)]
  · rw [if_neg (fun h => hc h.1), if_neg (fun h => hc (by simpa using h))]
/-- a place on a line of a way -/
def mkP (w k i : Nat) : Nat × Nat := if w = 0 then (i, k) else (k, i)
theorem mkP_inj {w k i k' i' : Nat} : mkP w k i = mkP w k' i' ↔ k = k' ∧ i = i' := by
  unfold mkP; split <;> simp [Prod.mk.injEq] <;> constructor <;> rintro ⟨a, b⟩ <;> exact ⟨b, a⟩
theorem count_mk (w k k' i : Nat) : ∀ l : List Nat, (l.map (mkP w k)).count (mkP w k' i) = if k = k' then l.count i else 0
  | [] => by split <;> rfl
  | a :: l => by
    rw [List.map_cons, List.count_cons, List.count_cons, count_mk w k k' i l]
    by_cases h : k = k'
    · subst h
      by_cases ha : a = i
      · subst ha; simp
      · have : ¬ mkP w k a = mkP w k i := fun e => ha (mkP_inj.1 e).2
        simp [ha, this]
    · have : ¬ mkP w k a = mkP w k' i := fun e => h (mkP_inj.1 e).1
      simp [h, this]

theorem flatMap_mk (G : Wl → List (Nat × Nat)) (gR : Nat × Nat → List Nat) (w k : Nat) (hG : ∀ a b, G ⟨w, k, a, b⟩ = (gR (a, b)).map (mkP w k)) : ∀ l : List (Nat × Nat),
    (l.map fun x => (⟨w, k, x.1, x.2⟩ : Wl)).flatMap G = (l.flatMap gR).map (mkP w k)
  | [] => rfl
  | x :: l => by rw [List.map_cons, List.flatMap_cons, List.flatMap_cons, List.map_append, flatMap_mk G gR w k hG l, hG]
theorem lines_count (G : Wl → List (Nat × Nat)) (gR : Nat × Nat → List Nat) (w : Nat) (F : Nat → Nat → Bool) (n k i : Nat) (hG : ∀ k a b, G ⟨w, k, a, b⟩ = (gR (a, b)).map (mkP w k)) : ∀ K,
    ((linesW w F n K).flatMap G).count (mkP w k i) = if 1 ≤ k ∧ k < K then ((lineW (F k) n n).flatMap gR).count i else 0
  | 0 => by rw [if_neg (by omega)]; rfl
  | K + 1 => by
    have ih := lines_count G gR w F n k i hG K
    rcases Nat.eq_zero_or_pos K with h0 | h0
    · subst h0; rw [if_neg (by omega), linesW_one]; rfl
    · rw [linesW_succ h0, List.flatMap_append, List.count_append, ih, flatMap_mk G gR w K (hG K), count_mk]
      by_cases hk : K = k
      · subst hk; rw [if_neg (by omega), if_pos rfl, if_pos ⟨h0, by omega⟩, Nat.zero_add]
      · rw [if_neg hk, Nat.add_zero]
        by_cases hc : 1 ≤ k ∧ k < K
        · rw [if_pos hc, if_pos (by omega)]
        · rw [if_neg hc, if_neg (by omega)]

/-- the points that a wall goes through, and those where it ends -/
def innW (X : Wl) : List (Nat × Nat) := (innR (X.first, X.long)).map (mkP X.way X.line)
def endW (X : Wl) : List (Nat × Nat) := (endR (X.first, X.long)).map (mkP X.way X.line)

/-- the walls' pieces around a point: above it, below it, to its left, to its right -/
def eU (h wd : Nat) (g : Nat → Nat → Nat) (i k : Nat) : Bool := (decide (1 ≤ k) && decide (k < wd)) && pv (upF h g k) i
def eD (h wd : Nat) (g : Nat → Nat → Nat) (i k : Nat) : Bool := (decide (1 ≤ k) && decide (k < wd)) && upF h g k i
def eL (h wd : Nat) (g : Nat → Nat → Nat) (i k : Nat) : Bool := (decide (1 ≤ i) && decide (i < h)) && pv (lvF wd g i) k
def eR (h wd : Nat) (g : Nat → Nat → Nat) (i k : Nat) : Bool := (decide (1 ≤ i) && decide (i < h)) && lvF wd g i k

theorem upF_off {h : Nat} {g : Nat → Nat → Nat} {k : Nat} : ∀ j, h ≤ j → upF h g k j = false := fun j hj => by unfold upF; rw [decide_eq_false (by omega)]; rfl
theorem lvF_off {wd : Nat} {g : Nat → Nat → Nat} {k : Nat} : ∀ j, wd ≤ j → lvF wd g k j = false := fun j hj => by unfold lvF; rw [decide_eq_false (by omega)]; rfl

theorem inn_count (h wd : Nat) (g : Nat → Nat → Nat) (i k : Nat) : ((wallsG h wd g).flatMap innW).count (i, k) = b2n (eU h wd g i k && eD h wd g i k) + b2n (eL h wd g i k && eR h wd g i k) := by
  unfold wallsG
  rw [List.flatMap_append, List.count_append]
  have a := lines_count innW innR 0 (upF h g) h k i (fun _ _ _ => rfl) wd
  have b := lines_count innW innR 1 (lvF wd g) wd i k (fun _ _ _ => rfl) h
  rw [line_inn_all upF_off] at a
  rw [line_inn_all lvF_off] at b
  unfold upW lvW
  have e0 : mkP 0 k i = (i, k) := rfl
  have e1 : mkP 1 i k = (i, k) := rfl
  rw [e0] at a
  rw [e1] at b
  rw [a, b]
  unfold eU eD eL eR
  congr 1
  · by_cases hc : 1 ≤ k ∧ k < wd
    · rw [if_pos hc, decide_eq_true hc.1, decide_eq_true hc.2]; simp
    · rw [if_neg hc]
      have : (decide (1 ≤ k) && decide (k < wd)) = false := by simpa using hc
      rw [this]; rfl
  · by_cases hc : 1 ≤ i ∧ i < h
    · rw [if_pos hc, decide_eq_true hc.1, decide_eq_true hc.2]; simp
    · rw [if_neg hc]
      have : (decide (1 ≤ i) && decide (i < h)) = false := by simpa using hc
      rw [this]; rfl
theorem b2n_two (a b : Bool) : b2n a + b2n b = 2 ↔ a = true ∧ b = true := by cases a <;> cases b <;> simp [b2n]
/-- all points that a plan may have -/
def ptsAll : List (Nat × Nat) := (List.range 7).flatMap fun i => (List.range 7).map fun k => (i, k)
theorem mem_ptsAll {i k : Nat} : (i, k) ∈ ptsAll ↔ i ≤ 6 ∧ k ≤ 6 := by
  unfold ptsAll
  rw [List.mem_flatMap]
  constructor
  · rintro ⟨a, ha, h⟩
    rw [List.mem_map] at h
    obtain ⟨b, hb, he⟩ := h
    rw [Prod.mk.injEq] at he
    rw [List.mem_range] at ha hb
    obtain ⟨rfl, rfl⟩ := he
    omega
  · rintro ⟨a, b⟩
    exact ⟨i, List.mem_range.2 (by omega), List.mem_map.2 ⟨k, List.mem_range.2 (by omega), rfl⟩⟩
theorem ptsAll_one {i k : Nat} (hi : i ≤ 6) (hk : k ≤ 6) : ptsAll.count (i, k) = 1 := by
  have : ∀ i : Fin 7, ∀ k : Fin 7, ptsAll.count (i.1, k.1) = 1 := by decide +kernel
  exact this ⟨i, by omega⟩ ⟨k, by omega⟩
theorem countP_ptsAll (q : Nat × Nat → Bool) : ptsAll.countP q = ((List.range 7).map fun i => (List.range 7).countP fun k => q (i, k)).sum := by
  unfold ptsAll
  rw [List.countP_flatMap]
  congr 1
theorem countP_range_ext {q : Nat → Bool} {n : Nat} : ∀ {m : Nat}, n ≤ m → (∀ k, n ≤ k → k < m → q k = false) → (List.range m).countP q = (List.range n).countP q
  | 0, h, _ => by obtain rfl : n = 0 := by omega
                  rfl
  | m + 1, h, hq => by
    by_cases he : n = m + 1
    · subst he; rfl
    · rw [List.range_succ, List.countP_append, countP_range_ext (m := m) (by omega) (fun k a b => hq k a (by omega)), List.countP_singleton, hq m (by omega) (by omega)]; rfl
theorem sum_range_ext {q : Nat → Nat} {n : Nat} : ∀ {m : Nat}, n ≤ m → (∀ k, n ≤ k → k < m → q k = 0) → ((List.range m).map q).sum = ((List.range n).map q).sum
  | 0, h, _ => by obtain rfl : n = 0 := by omega
                  rfl
  | m + 1, h, hq => by
    by_cases he : n = m + 1
    · subst he; rfl
    · rw [List.range_succ, List.map_append, List.sum_append, sum_range_ext (m := m) (by omega) (fun k a b => hq k a (by omega))]; simp [hq m (by omega) (by omega)]
/-- points counted over all places of a plan -/
theorem countP_plan {h wd : Nat} (hh : h ≤ 7) (hw : wd ≤ 7) {q : Nat × Nat → Bool} (hq : ∀ i k, h ≤ i ∨ wd ≤ k → q (i, k) = false) : ptsAll.countP q = ((List.range h).map fun i => (List.range wd).countP fun k => q (i, k)).sum := by
  rw [countP_ptsAll, sum_range_ext hh (fun i a _ => by rw [List.countP_eq_zero]; intro k _; rw [hq i k (.inl a)]; decide)]
  congr 1
  refine List.map_congr_left fun i _ => ?_
  exact countP_range_ext hw (fun k a _ => hq i k (.inr a))

/-- how many rooms meet at a point -/
def meetG (g : Nat → Nat → Nat) (i k : Nat) : Nat :=
  1 + b2n (decide (g (i - 1) k ≠ g (i - 1) (k - 1))) + b2n (decide (g i (k - 1) ≠ g (i - 1) (k - 1)) && decide (g i (k - 1) ≠ g (i - 1) k)) +
    b2n (decide (g i k ≠ g (i - 1) (k - 1)) && (decide (g i k ≠ g (i - 1) k) && decide (g i k ≠ g i (k - 1))))
theorem rect_corner {h wd : Nat} {g : Nat → Nat → Nat} (hr : RectG h wd g) {i j i' j' : Nat} (hi : i < h) (hj : j < wd) (hi' : i' < h) (hj' : j' < wd) (he : g i' j' = g i j) : g i j' = g i j ∧ g i' j = g i j := by
  obtain ⟨r, c, a, b, _, _, hin⟩ := hr i j hi hj
  have h1 := (hin i j hi hj).1 rfl
  have h2 := (hin i' j' hi' hj').1 he
  unfold InR at h1 h2
  exact ⟨(hin i j' hi hj').2 (by unfold InR; omega), (hin i' j hi' hj).2 (by unfold InR; omega)⟩

theorem around_in {h wd : Nat} {g : Nat → Nat → Nat} {i k : Nat} (hi1 : 1 ≤ i) (hi : i < h) (hk1 : 1 ≤ k) (hk : k < wd) :
    eU h wd g i k = decide (g (i - 1) (k - 1) ≠ g (i - 1) k) ∧ eD h wd g i k = decide (g i (k - 1) ≠ g i k) ∧ eL h wd g i k = decide (g (i - 1) (k - 1) ≠ g i (k - 1)) ∧ eR h wd g i k = decide (g (i - 1) k ≠ g i k) := by
  unfold eU eD eL eR pv upF lvF
  rw [decide_eq_true hi1, decide_eq_true hk1, decide_eq_true hi, decide_eq_true hk, decide_eq_true (show i - 1 < h by omega), decide_eq_true (show k - 1 < wd by omega)]
  simp
theorem meets_in {h wd : Nat} {g : Nat → Nat → Nat} (hr : RectG h wd g) {i k : Nat} (hi1 : 1 ≤ i) (hi : i < h) (hk1 : 1 ≤ k) (hk : k < wd) :
    (meetG g i k = 4 ↔ (eU h wd g i k && eD h wd g i k) = true ∧ (eL h wd g i k && eR h wd g i k) = true) ∧
    (meetG g i k = 3 ↔ ((eU h wd g i k != eD h wd g i k) = true ∨ (eL h wd g i k != eR h wd g i k) = true)) ∧
    ¬ ((eU h wd g i k != eD h wd g i k) = true ∧ (eL h wd g i k != eR h wd g i k) = true) := by
  obtain ⟨e1, e2, e3, e4⟩ := around_in (g := g) hi1 hi hk1 hk
  rw [e1, e2, e3, e4]
  have r1 := rect_corner hr (i := i - 1) (j := k - 1) (i' := i) (j' := k) (by omega) (by omega) hi hk
  have r2 := rect_corner hr (i := i - 1) (j := k) (i' := i) (j' := k - 1) (by omega) (by omega) hi (by omega)
  unfold meetG
  generalize g (i - 1) (k - 1) = a at *
  generalize g (i - 1) k = b at *
  generalize g i (k - 1) = c at *
  generalize g i k = d at *
  clear e1 e2 e3 e4 hr
  have f : ∀ {x y : Nat}, decide (x ≠ y) = false ↔ x = y := fun {x y} => by simp
  rw [show decide (b ≠ a) = decide (a ≠ b) from decide_eq_decide.2 ⟨Ne.symm, Ne.symm⟩, show decide (c ≠ a) = decide (a ≠ c) from decide_eq_decide.2 ⟨Ne.symm, Ne.symm⟩, show decide (c ≠ b) = decide (b ≠ c) from decide_eq_decide.2 ⟨Ne.symm, Ne.symm⟩,
    show decide (d ≠ a) = decide (a ≠ d) from decide_eq_decide.2 ⟨Ne.symm, Ne.symm⟩, show decide (d ≠ b) = decide (b ≠ d) from decide_eq_decide.2 ⟨Ne.symm, Ne.symm⟩, show decide (d ≠ c) = decide (c ≠ d) from decide_eq_decide.2 ⟨Ne.symm, Ne.symm⟩]
  have c1 : decide (a ≠ d) = false → decide (a ≠ b) = false ∧ decide (a ≠ c) = false := fun h => by rw [f] at h; have := r1 h.symm; rw [f, f]; exact ⟨this.1.symm, this.2.symm⟩
  have c2 : decide (b ≠ c) = false → decide (a ≠ b) = false ∧ decide (b ≠ d) = false := fun h => by rw [f] at h; have := r2 h.symm; rw [f, f]; exact ⟨this.1, this.2.symm⟩
  have c3 : decide (a ≠ b) = false → decide (b ≠ d) = false → decide (a ≠ d) = false := fun h h' => by rw [f] at h h' ⊢; omega
  have c4 : decide (a ≠ c) = false → decide (c ≠ d) = false → decide (a ≠ d) = false := fun h h' => by rw [f] at h h' ⊢; omega
  have c5 : decide (a ≠ b) = false → decide (a ≠ c) = false → decide (b ≠ c) = false := fun h h' => by rw [f] at h h' ⊢; omega
  have c6 : decide (b ≠ d) = false → decide (c ≠ d) = false → decide (b ≠ c) = false := fun h h' => by rw [f] at h h' ⊢; omega
  have c7 : decide (a ≠ d) = false → decide (a ≠ b) = false → decide (b ≠ d) = false := fun h h' => by rw [f] at h h' ⊢; omega
  have c8 : decide (a ≠ d) = false → decide (a ≠ c) = false → decide (c ≠ d) = false := fun h h' => by rw [f] at h h' ⊢; omega
  have c9 : decide (b ≠ c) = false → decide (a ≠ b) = false → decide (a ≠ c) = false := fun h h' => by rw [f] at h h' ⊢; omega
  clear r1 r2 f
  generalize decide (a ≠ b) = B1 at *
  generalize decide (a ≠ c) = B2 at *
  generalize decide (b ≠ d) = B3 at *
  generalize decide (c ≠ d) = B4 at *
  generalize decide (a ≠ d) = B5 at *
  generalize decide (b ≠ c) = B6 at *
  cases B1 <;> cases B2 <;> cases B3 <;> cases B4 <;> cases B5 <;> cases B6 <;> simp_all [b2n]

/-- an inner point at which so many rooms meet -/
def metG (g : Nat → Nat → Nat) (m i k : Nat) : Bool := decide (1 ≤ i) && decide (1 ≤ k) && decide (meetG g i k = m)
/-- how many points have so many rooms -/
def ptsG (h wd : Nat) (g : Nat → Nat → Nat) (m : Nat) : Nat := ((List.range h).map fun i => (List.range wd).countP fun k => metG g m i k).sum

theorem off_pts {h wd : Nat} {g : Nat → Nat → Nat} {i k : Nat} : (h ≤ i → eD h wd g i k = false ∧ eL h wd g i k = false ∧ eR h wd g i k = false) ∧ (h < i → eU h wd g i k = false) ∧
    (wd ≤ k → eU h wd g i k = false ∧ eD h wd g i k = false ∧ eR h wd g i k = false) ∧ (wd < k → eL h wd g i k = false) ∧ (i = 0 → eU h wd g i k = false ∧ eL h wd g i k = false ∧ eR h wd g i k = false) ∧ (k = 0 → eU h wd g i k = false ∧ eD h wd g i k = false ∧ eL h wd g i k = false) := by
  unfold eU eD eL eR pv
  refine ⟨fun a => ?_, fun a => ?_, fun a => ?_, fun a => ?_, fun a => ?_, fun a => ?_⟩
  · rw [upF_off i a, decide_eq_false (show ¬ i < h by omega)]; simp
  · rw [upF_off (i - 1) (by omega)]; simp
  · rw [lvF_off k a, decide_eq_false (show ¬ k < wd by omega)]; simp
  · rw [lvF_off (k - 1) (by omega)]; simp
  · subst a; simp
  · subst a; simp

theorem cross_pts {h wd : Nat} {g : Nat → Nat → Nat} (hr : RectG h wd g) (hh : h ≤ 6) (hw : wd ≤ 6) :
    (ptsAll.countP fun x => decide (((wallsG h wd g).flatMap innW).count x = 2)) = ptsG h wd g 4 := by
  rw [countP_plan (h := h) (wd := wd) (by omega) (by omega)]
  · unfold ptsG
    congr 1
    refine List.map_congr_left fun i hi => ?_
    refine List.countP_congr fun k hk => ?_
    rw [List.mem_range] at hi hk
    rw [inn_count, decide_eq_true_eq, b2n_two]
    unfold metG
    obtain ⟨_, _, _, _, z1, z2⟩ := off_pts (h := h) (wd := wd) (g := g) (i := i) (k := k)
    by_cases h1 : 1 ≤ i
    · by_cases h2 : 1 ≤ k
      · rw [decide_eq_true h1, decide_eq_true h2, Bool.true_and, Bool.true_and, decide_eq_true_eq]
        exact (meets_in hr h1 hi h2 hk).1.symm
      · rw [(z2 (by omega)).1, decide_eq_false h2]; simp
    · rw [(z1 (by omega)).1, decide_eq_false h1]; simp
  · intro i k hik
    rw [decide_eq_false_iff_not, inn_count, b2n_two]
    obtain ⟨z1, _, z2, _, _, _⟩ := off_pts (h := h) (wd := wd) (g := g) (i := i) (k := k)
    rcases hik with a | a
    · rw [(z1 a).1]; simp
    · rw [(z2 a).1]; simp

end Go.Proofs.Ytpgcpmfemcfoaaa
