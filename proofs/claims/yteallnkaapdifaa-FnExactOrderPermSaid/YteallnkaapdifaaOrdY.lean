
/-
  The places of rooms in a line, and the line: the program's. (Walks.)
-/
import Derived.Test.YteallnkaapdifaaOrdP
import Derived.Test.YteallnkaapdifaaOrdT
namespace Go.Proofs.Yteallnkaapdifaa
open Go.RowKit

/-! # counting who is ahead -/
/-- the number of rooms ahead of one -/
def placeN (q : Nat → Nat → Bool) (r b : Nat) : Nat := (List.range r).countP fun a => q a b
theorem placeN_succ (q : Nat → Nat → Bool) (r b : Nat) : placeN q (r + 1) b = placeN q r b + (if q r b then 1 else 0) := by
  unfold placeN; rw [List.range_succ, List.countP_append, List.countP_singleton]
theorem placeN_le (q : Nat → Nat → Bool) (r b : Nat) : placeN q r b ≤ r := by
  unfold placeN; have := List.countP_le_length (p := fun a => q a b) (l := List.range r); rwa [List.length_range] at this
theorem placeN_lt {q : Nat → Nat → Bool} {r b : Nat} (hb : b < r) (hq : q b b = false) : placeN q r b < r := by
  rcases Nat.lt_or_ge (placeN q r b) r with h | h
  · exact h
  · exfalso
    have hall : (List.range r).countP (fun a => q a b) = (List.range r).length := by
      have := placeN_le q r b; unfold placeN at this h; rw [List.length_range]; omega
    rw [List.countP_eq_length] at hall
    have := hall b (List.mem_range.2 hb)
    rw [hq] at this; cases this
/-- the places once the first rooms, and of the next one the first pairs, are gone through -/
def placeL (q : Nat → Nat → Bool) (r i j : Nat) : List Nat := (List.range r).map fun b => placeN q i b + (if b < j ∧ q i b = true then 1 else 0)
theorem placeL_len (q : Nat → Nat → Bool) (r i j : Nat) : (placeL q r i j).length = r := by simp [placeL]
theorem placeL_at {q : Nat → Nat → Bool} {r i j b : Nat} (hb : b < r) : (placeL q r i j).getD b 0 = placeN q i b + (if b < j ∧ q i b = true then 1 else 0) := by simp [placeL, hb]
theorem placeL_zero (q : Nat → Nat → Bool) (r : Nat) : placeL q r 0 0 = List.replicate r 0 := by
  unfold placeL placeN
  simp [List.map_const']
theorem list_getD_ext {S T : List Nat} (hl : S.length = T.length) (h : ∀ b, b < S.length → S.getD b 0 = T.getD b 0) : S = T := by
  apply List.ext_getElem hl
  intro b h1 h2
  have := h b h1
  simpa [h1, h2] using this
theorem placeL_row (q : Nat → Nat → Bool) (r i : Nat) : placeL q r i r = placeL q r (i + 1) 0 := by
  apply list_getD_ext (by rw [placeL_len, placeL_len])
  intro b hb
  rw [placeL_len] at hb
  rw [placeL_at hb, placeL_at hb, placeN_succ]
  by_cases hq : q i b = true
  · rw [if_pos ⟨hb, hq⟩, if_pos hq, if_neg (by omega)]
  · rw [if_neg (fun e => hq e.2), if_neg hq, if_neg (by omega)]
theorem placeL_put {q : Nat → Nat → Bool} {r i j : Nat} (hj : j < r) (hq : q i j = true) : (placeL q r i j).set j ((placeL q r i j).getD j 0 + 1) = placeL q r i (j + 1) := by
  apply list_getD_ext (by rw [List.length_set, placeL_len, placeL_len])
  intro b hb
  rw [List.length_set, placeL_len] at hb
  rw [getD_set _ _ _ _ (by rw [placeL_len]; exact hj), placeL_at hb, placeL_at hj]
  by_cases hbj : b = j
  · subst hbj; rw [if_pos rfl, if_neg (by omega), placeL_at hb, if_pos ⟨by omega, hq⟩]
  · rw [if_neg hbj, placeL_at hb]
    by_cases h : b < j ∧ q i b = true
    · rw [if_pos h, if_pos ⟨by omega, h.2⟩]
    · rw [if_neg h, if_neg (fun e => h ⟨by omega, e.2⟩)]
theorem placeL_skip {q : Nat → Nat → Bool} {r i j : Nat} (hq : q i j = false) : placeL q r i j = placeL q r i (j + 1) := by
  apply list_getD_ext (by rw [placeL_len, placeL_len])
  intro b hb
  rw [placeL_len] at hb
  rw [placeL_at hb, placeL_at hb]
  by_cases h : b < j ∧ q i b = true
  · rw [if_pos h, if_pos ⟨by omega, h.2⟩]
  · rw [if_neg h, if_neg (fun e => ?_)]
    by_cases hbj : b = j
    · subst hbj; rw [hq] at e; cases e.2
    · exact h ⟨by omega, e.2⟩
def placesN (q : Nat → Nat → Bool) (r : Nat) : List Nat := placeL q r r 0
theorem placesN_at {q : Nat → Nat → Bool} {r b : Nat} (hb : b < r) : (placesN q r).getD b 0 = placeN q r b := by
  unfold placesN; rw [placeL_at hb, if_neg (by omega)]; rfl

/-- the line: each room at its place -/
def lineN (q : Nat → Nat → Bool) (r : Nat) : Nat → List Nat
  | 0 => List.replicate r 0
  | k + 1 => (lineN q r k).set (placeN q r k) k
theorem lineN_len (q : Nat → Nat → Bool) (r : Nat) : ∀ k, (lineN q r k).length = r
  | 0 => List.length_replicate
  | k + 1 => by rw [lineN, List.length_set]; exact lineN_len q r k
theorem lineN_lt (q : Nat → Nat → Bool) (r : Nat) : ∀ k, k ≤ r → ∀ i, i < r → (lineN q r k).getD i 0 < r
  | 0, _, i, hi => by simp [lineN, hi]; omega
  | k + 1, hk, i, hi => by
    rw [lineN]
    rcases Nat.lt_or_ge (placeN q r k) r with h | h
    · rw [getD_set _ _ _ _ (by rw [lineN_len]; exact h)]
      split
      · omega
      · exact lineN_lt q r k (by omega) i hi
    · rw [List.set_eq_of_length_le (by rw [lineN_len]; exact h)]
      exact lineN_lt q r k (by omega) i hi

theorem held_zeros {w : World} {base g n : Nat} (h : w.ownsRow base 3 1 (.slice (some ⟨g, 0, none⟩) n n) n (madeCells (Value.int .i64 0).cells (n * 1)).toList) : HeldB w g 3 (setsV (List.replicate n 0)) := by
  rw [show (.int .i64 0 : Value).cells = #[.int .i64 0] from rfl, Nat.mul_one, toList_madeCells_one] at h
  rcases h.2 with ⟨hv, h0⟩ | ⟨g', cap', cur, hv, hb, hg, h1, h2, h3, h4⟩
  · cases hv
  · simp only [Value.slice.injEq, Option.some.injEq, Addr.mk.injEq, and_true, true_and] at hv
    obtain ⟨rfl, rfl⟩ := hv
    rw [Nat.mul_one] at h3 h4
    rw [List.take_of_length_le (by rw [Array.length_toList]; omega)] at h4
    have hcur : cur = setsV (List.replicate n 0) := by
      apply Array.toList_inj.1
      rw [h4]
      simp [setsV]
    rw [← hcur]
    exact hg
theorem owns_sets {w : World} {base g : Nat} {S : List Nat} (h : HeldB w g 3 (setsV S)) (hb : base ≤ g) (hl : S.length ≤ maxLen) : w.ownsRow base 3 1 (.slice (some ⟨g, 0, none⟩) S.length S.length) S.length ((S.map fun m => ((m : Nat) : Int)).map (Value.int .i64)) := by
  refine ⟨by simp, .inr ⟨g, S.length, setsV S, rfl, hb, h, Nat.le_refl _, hl, by rw [setsV_size, Nat.mul_one], ?_⟩⟩
  rw [Nat.mul_one, List.take_of_length_le (by rw [Array.length_toList, setsV_size]; exact Nat.le_refl _)]
  simp [setsV]

/-! # the two questions -/
def firstQ (F : Nat → Nat → Nat → Bool) (a b : Nat) : Bool := F 0 a b || F 1 a b
def secondQ (F : Nat → Nat → Nat → Bool) (a b : Nat) : Bool := F 0 a b || F 1 b a
set_option maxRecDepth 100000 in
set_option maxHeartbeats 1600000 in
theorem isFirst_any {C : Array Value} (hC : C.size = 39) (F : Nat → Nat → Nat → Bool) (a b : Nat) (w : World) (ha : a < 9) (hb : b < 9) :
    Calls Try.prog 41 #[.agg (ordC C F), .int .i64 a, .int .i64 b] w fun e w' => e = .returned (.bool (firstQ F a b)) ∧ Below w.heap.size w w' := by
  have hB := HeldB.new w 46 (ordC C F)
  have hbl := below_alloc w (.cells (ordC C F) 46)
  have k1 := (hB.cell (39 + 0 * 81 + a * 9 + b)).trans (ordC_at hC F (by omega) ha hb)
  have k2 := (hB.cell (39 + 1 * 81 + a * 9 + b)).trans (ordC_at hC F (by omega) ha hb)
  rw [show 39 + 0 * 81 + a * 9 + b = 39 + a * 9 + b by omega] at k1
  rw [show 39 + 1 * 81 + a * 9 + b = 120 + a * 9 + b by omega] at k2
  unfold firstQ
  generalize ordC C F = D at *
  have ha9 : (a : Int) < 9 := by omega
  have hb9 : (b : Int) < 9 := by omega
  clear hB
  cases hx : F 0 a b
  · rw [hx] at k1
    go_enter Try.func41, Try.ntmps41
    go_wp2
    go_ret
    exact ⟨rfl, hbl⟩
  · rw [hx] at k1
    go_enter Try.func41, Try.ntmps41
    go_wp2
    go_ret
    exact ⟨rfl, hbl⟩
set_option maxRecDepth 100000 in
set_option maxHeartbeats 1600000 in
theorem isSecond_any {C : Array Value} (hC : C.size = 39) (F : Nat → Nat → Nat → Bool) (a b : Nat) (w : World) (ha : a < 9) (hb : b < 9) :
    Calls Try.prog 43 #[.agg (ordC C F), .int .i64 a, .int .i64 b] w fun e w' => e = .returned (.bool (secondQ F a b)) ∧ Below w.heap.size w w' := by
  have hB := HeldB.new w 46 (ordC C F)
  have hbl := below_alloc w (.cells (ordC C F) 46)
  have k1 := (hB.cell (39 + 0 * 81 + a * 9 + b)).trans (ordC_at hC F (by omega) ha hb)
  have k2 := (hB.cell (39 + 1 * 81 + b * 9 + a)).trans (ordC_at hC F (by omega) hb ha)
  rw [show 39 + 0 * 81 + a * 9 + b = 39 + a * 9 + b by omega] at k1
  rw [show 39 + 1 * 81 + b * 9 + a = 120 + b * 9 + a by omega] at k2
  unfold secondQ
  generalize ordC C F = D at *
  have ha9 : (a : Int) < 9 := by omega
  have hb9 : (b : Int) < 9 := by omega
  clear hB
  cases hx : F 0 a b
  · rw [hx] at k1
    go_enter Try.func43, Try.ntmps43
    go_wp2
    go_ret
    exact ⟨rfl, hbl⟩
  · rw [hx] at k1
    go_enter Try.func43, Try.ntmps43
    go_wp2
    go_ret
    exact ⟨rfl, hbl⟩

/-- where the places lie while rooms are counted -/
def PlSt (w : World) (D : Array Value) (S : List Nat) (wr : World) : Prop := HeldB wr w.heap.size 46 D ∧ HeldB wr (w.heap.size + 1) 3 (setsV S) ∧ Below w.heap.size w wr
theorem PlSt.below {w : World} {D : Array Value} {S : List Nat} {wr w1 : World} (h : PlSt w D S wr) (hb : Below wr.heap.size wr w1) : PlSt w D S w1 := ⟨h.1.below hb, h.2.1.below hb, below_step h.2.2 h.2.2.size hb⟩
theorem PlSt.put {w : World} {D : Array Value} {S T : List Nat} {wr : World} (h : PlSt w D S wr) (x m : Nat) (hT : S.set x m = T) : PlSt w D T (wr.setCell ⟨w.heap.size + 1, x, none⟩ (.int .i64 (m : Nat))) := by
  subst hT
  exact ⟨h.1.other (by simp) _, (h.2.1.set x _).eq (setsV_put S x m), h.2.2.setCell (p := ⟨w.heap.size + 1, x, none⟩) (by simp) _⟩

/-- places handed back -/
def PlRet (base : Nat) (S : List Nat) (e : Ending) (w' : World) : Prop := ∃ g, base ≤ g ∧ e = .returned (.slice (some ⟨g, 0, none⟩) S.length S.length) ∧ HeldB w' g 3 (setsV S)

set_option maxRecDepth 100000 in
set_option maxHeartbeats 4000000 in
theorem placesFirst_any (h wd r : Nat) (g : Nat → Nat → Nat) (F : Nat → Nat → Nat → Bool) (w : World) (hr : r ≤ 9) :
    Calls Try.prog 57 #[.agg (ordC (planC h wd r g) F), .func (.func 41) #[.agg (ordC (planC h wd r g) F)] #[]] w
      fun e w' => PlRet w.heap.size (placesN (firstQ F) r) e w' ∧ Below w.heap.size w w' := by
  have HQ := Lib.hid (fun (a b : Nat) (w : World) (ha : a < 9) (hb : b < 9) => isFirst_any (planC_size h wd r g) F a b w ha hb)
  have hD2 : (ordC (planC h wd r g) F)[2]? = some (.int .i64 (r : Nat)) := by rw [ordC_lo F (by rw [planC_size]; omega), planC_2]
  obtain ⟨im, hmi, hmz, hm1, hm2⟩ := info_parts Try.infoNum
  unfold placesN
  have HSK := Lib.hid (fun i j hq => placeL_skip (q := firstQ F) (r := r) (i := i) (j := j) hq)
  have HPU := Lib.hid (fun i j hj hq => placeL_put (q := firstQ F) (r := r) (i := i) (j := j) hj hq)
  have HROW := Lib.hid (fun i => placeL_row (firstQ F) r i)
  have HZE := Lib.hid (placeL_zero (firstQ F) r)
  have HAT := Lib.hid (fun i j b (hb : b < r) => placeL_at (q := firstQ F) (r := r) (i := i) (j := j) hb)
  have HPL := Lib.hid (fun i b => placeN_le (firstQ F) i b)
  generalize firstQ F = q at *
  generalize ordC (planC h wd r g) F = D at *
  have hB0 := HeldB.new w 46 D
  have c2 : (w.alloc (.cells D 46)).cell? ⟨w.heap.size, 2, none⟩ = some (.int .i64 (r : Nat)) := (hB0.cell 2).trans hD2
  have HD2 := Lib.hid hD2; clear hD2
  go_enter Try.func57, Try.ntmps57
  go_wp2_with (at_make; refine wpList_make_full _ rfl _ _ 29 rfl w.heap.size 3 im (.int .i64 0) 1 Try.underlying29 hmi hmz hm1 .i64 .i64 _ _ r rfl rfl rfl rfl ?d2 ?d3 (by simp) ?_; rotate_left 2; intro w2 ho2 hg2; have hb2 : Below (w.alloc (.cells D 46)).heap.size (w.alloc (.cells D 46)) w2 := below_of_grownBy hg2 (Nat.le_refl _) (fun k hk => by cases hk); have hz := held_zeros ho2; rw [World.size_alloc] at hz; have hB2 := hB0.below hb2; have c3 : w2.cell? ⟨w.heap.size, 2, none⟩ = some (.int .i64 (r : Nat)) := (hB2.cell 2).trans HD2.out)
  case d2 => rw [hm2]; omega
  case d3 => unfold maxLen; omega
  have st2 : PlSt w D (placeL q r 0 0) w2 := ⟨hB2, by rw [HZE.out]; exact hz, (below_alloc w (.cells D 46)).trans (hb2.mono (by simp))⟩
  clear hz hB2 c3 hb2 ho2 hg2 hB0 c2
  go_loopw [15] (fun v wr => ∃ i : Nat, i ≤ r ∧ v = .int .i64 i ∧ PlSt w D (placeL q r i 0) wr) (fun v _ => r - (intOf v).toNat)
  case atStart => exact ⟨0, Nat.zero_le _, rfl, st2⟩
  case round =>
    clear st2
    obtain ⟨i, hi, rfl, hst⟩ := hrel
    by_cases hir : i < r
    · have c3 : wr.cell? ⟨w.heap.size, 2, none⟩ = some (.int .i64 (r : Nat)) := (hst.1.cell 2).trans HD2.out
      go_wp2
      clear c3
      go_loopw [21] (fun v wr => ∃ j : Nat, j ≤ r ∧ v = .int .i64 j ∧ PlSt w D (placeL q r i j) wr) (fun v _ => r - (intOf v).toNat)
      case atStart => exact ⟨0, Nat.zero_le _, rfl, hst⟩
      case round =>
        clear hst
        obtain ⟨j, hj, rfl, hst⟩ := hrel
        by_cases hjr : j < r
        · have HQ2 := Lib.hid (fun w => HQ.out i j w (by omega) (by omega))
          cases hq : q i j
          · rw [hq] at HQ2
            go_wp2_with (go_at_call 41; refine (HQ2.out _).mono ?_; rintro e w3 ⟨rfl, hb3⟩; have hst3 := hst.below hb3; rw [HSK.out i j hq] at hst3)
            go_roundw
            case rel => exact ⟨j + 1, by omega, by go_num, hst3⟩
            case measure => simp [intOf]; omega
          · rw [hq] at HQ2
            have hv : (placeL q r i j).getD j 0 ≤ 9 := by
              rw [HAT.out i j j hjr, if_neg (by omega)]; have := HPL.out i j; omega
            have hlj : j < (placeL q r i j).length := by rw [placeL_len]; exact hjr
            have hlji : (j : Int) < (r : Int) := by omega
            have HP2 := Lib.hid (HPU.out i j hjr hq)
            have HL := Lib.hid (placeL_len q r i j)
            obtain ⟨m, hm⟩ : ∃ m, m = (placeL q r i j).getD j 0 := ⟨_, rfl⟩
            rw [← hm] at hv HP2
            have k0 := setsV_at hlj
            rw [← hm] at k0
            generalize placeL q r i j = S at *
            clear hm
            go_wp2_with (go_at_call 41; refine (HQ2.out _).mono ?_; rintro e w3 ⟨rfl, hb3⟩; have hst3 := hst.below hb3; have k3 : w3.cell? ⟨w.heap.size + 1, j, none⟩ = some (.int .i64 (m : Nat)) := (hst3.2.1.cell j).trans k0; have f3 := hst3.2.1.frozen j)
            have hst4 := hst3.put j (m + 1) HP2.out
            rw [show ((m + 1 : Nat) : Int) = (m : Int) + 1 by omega] at hst4
            go_roundw
            case rel => exact ⟨j + 1, by omega, by go_num, hst4⟩
            case measure => simp [intOf]; omega
        · obtain rfl : j = r := by omega
          rw [HROW.out i] at hst
          go_wp2
          go_roundw
          case rel => exact ⟨i + 1, by omega, by go_num, hst⟩
          case measure => simp [intOf]; omega
    · obtain rfl : i = r := by omega
      have hlen : (placeL q i i 0).length = i := placeL_len _ _ _ _
      go_wp2
      go_ret
      exact ⟨⟨w.heap.size + 1, by omega, by rw [hlen]; rfl, hst.2.1⟩, hst.2.2⟩

set_option maxRecDepth 100000 in
set_option maxHeartbeats 4000000 in
theorem placesSecond_any (h wd r : Nat) (g : Nat → Nat → Nat) (F : Nat → Nat → Nat → Bool) (w : World) (hr : r ≤ 9) :
    Calls Try.prog 57 #[.agg (ordC (planC h wd r g) F), .func (.func 43) #[.agg (ordC (planC h wd r g) F)] #[]] w
      fun e w' => PlRet w.heap.size (placesN (secondQ F) r) e w' ∧ Below w.heap.size w w' := by
  have HQ := Lib.hid (fun (a b : Nat) (w : World) (ha : a < 9) (hb : b < 9) => isSecond_any (planC_size h wd r g) F a b w ha hb)
  have hD2 : (ordC (planC h wd r g) F)[2]? = some (.int .i64 (r : Nat)) := by rw [ordC_lo F (by rw [planC_size]; omega), planC_2]
  obtain ⟨im, hmi, hmz, hm1, hm2⟩ := info_parts Try.infoNum
  unfold placesN
  have HSK := Lib.hid (fun i j hq => placeL_skip (q := secondQ F) (r := r) (i := i) (j := j) hq)
  have HPU := Lib.hid (fun i j hj hq => placeL_put (q := secondQ F) (r := r) (i := i) (j := j) hj hq)
  have HROW := Lib.hid (fun i => placeL_row (secondQ F) r i)
  have HZE := Lib.hid (placeL_zero (secondQ F) r)
  have HAT := Lib.hid (fun i j b (hb : b < r) => placeL_at (q := secondQ F) (r := r) (i := i) (j := j) hb)
  have HPL := Lib.hid (fun i b => placeN_le (secondQ F) i b)
  generalize secondQ F = q at *
  generalize ordC (planC h wd r g) F = D at *
  have hB0 := HeldB.new w 46 D
  have c2 : (w.alloc (.cells D 46)).cell? ⟨w.heap.size, 2, none⟩ = some (.int .i64 (r : Nat)) := (hB0.cell 2).trans hD2
  have HD2 := Lib.hid hD2; clear hD2
  go_enter Try.func57, Try.ntmps57
  go_wp2_with (at_make; refine wpList_make_full _ rfl _ _ 29 rfl w.heap.size 3 im (.int .i64 0) 1 Try.underlying29 hmi hmz hm1 .i64 .i64 _ _ r rfl rfl rfl rfl ?d2 ?d3 (by simp) ?_; rotate_left 2; intro w2 ho2 hg2; have hb2 : Below (w.alloc (.cells D 46)).heap.size (w.alloc (.cells D 46)) w2 := below_of_grownBy hg2 (Nat.le_refl _) (fun k hk => by cases hk); have hz := held_zeros ho2; rw [World.size_alloc] at hz; have hB2 := hB0.below hb2; have c3 : w2.cell? ⟨w.heap.size, 2, none⟩ = some (.int .i64 (r : Nat)) := (hB2.cell 2).trans HD2.out)
  case d2 => rw [hm2]; omega
  case d3 => unfold maxLen; omega
  have st2 : PlSt w D (placeL q r 0 0) w2 := ⟨hB2, by rw [HZE.out]; exact hz, (below_alloc w (.cells D 46)).trans (hb2.mono (by simp))⟩
  clear hz hB2 c3 hb2 ho2 hg2 hB0 c2
  go_loopw [15] (fun v wr => ∃ i : Nat, i ≤ r ∧ v = .int .i64 i ∧ PlSt w D (placeL q r i 0) wr) (fun v _ => r - (intOf v).toNat)
  case atStart => exact ⟨0, Nat.zero_le _, rfl, st2⟩
  case round =>
    clear st2
    obtain ⟨i, hi, rfl, hst⟩ := hrel
    by_cases hir : i < r
    · have c3 : wr.cell? ⟨w.heap.size, 2, none⟩ = some (.int .i64 (r : Nat)) := (hst.1.cell 2).trans HD2.out
      go_wp2
      clear c3
      go_loopw [21] (fun v wr => ∃ j : Nat, j ≤ r ∧ v = .int .i64 j ∧ PlSt w D (placeL q r i j) wr) (fun v _ => r - (intOf v).toNat)
      case atStart => exact ⟨0, Nat.zero_le _, rfl, hst⟩
      case round =>
        clear hst
        obtain ⟨j, hj, rfl, hst⟩ := hrel
        by_cases hjr : j < r
        · have HQ2 := Lib.hid (fun w => HQ.out i j w (by omega) (by omega))
          cases hq : q i j
          · rw [hq] at HQ2
            go_wp2_with (go_at_call 43; refine (HQ2.out _).mono ?_; rintro e w3 ⟨rfl, hb3⟩; have hst3 := hst.below hb3; rw [HSK.out i j hq] at hst3)
            go_roundw
            case rel => exact ⟨j + 1, by omega, by go_num, hst3⟩
            case measure => simp [intOf]; omega
          · rw [hq] at HQ2
            have hv : (placeL q r i j).getD j 0 ≤ 9 := by
              rw [HAT.out i j j hjr, if_neg (by omega)]; have := HPL.out i j; omega
            have hlj : j < (placeL q r i j).length := by rw [placeL_len]; exact hjr
            have hlji : (j : Int) < (r : Int) := by omega
            have HP2 := Lib.hid (HPU.out i j hjr hq)
            have HL := Lib.hid (placeL_len q r i j)
            obtain ⟨m, hm⟩ : ∃ m, m = (placeL q r i j).getD j 0 := ⟨_, rfl⟩
            rw [← hm] at hv HP2
            have k0 := setsV_at hlj
            rw [← hm] at k0
            generalize placeL q r i j = S at *
            clear hm
            go_wp2_with (go_at_call 43; refine (HQ2.out _).mono ?_; rintro e w3 ⟨rfl, hb3⟩; have hst3 := hst.below hb3; have k3 : w3.cell? ⟨w.heap.size + 1, j, none⟩ = some (.int .i64 (m : Nat)) := (hst3.2.1.cell j).trans k0; have f3 := hst3.2.1.frozen j)
            have hst4 := hst3.put j (m + 1) HP2.out
            rw [show ((m + 1 : Nat) : Int) = (m : Int) + 1 by omega] at hst4
            go_roundw
            case rel => exact ⟨j + 1, by omega, by go_num, hst4⟩
            case measure => simp [intOf]; omega
        · obtain rfl : j = r := by omega
          rw [HROW.out i] at hst
          go_wp2
          go_roundw
          case rel => exact ⟨i + 1, by omega, by go_num, hst⟩
          case measure => simp [intOf]; omega
    · obtain rfl : i = r := by omega
      have hlen : (placeL q i i 0).length = i := placeL_len _ _ _ _
      go_wp2
      go_ret
      exact ⟨⟨w.heap.size + 1, by omega, by rw [hlen]; rfl, hst.2.1⟩, hst.2.2⟩
end Go.Proofs.Yteallnkaapdifaa
