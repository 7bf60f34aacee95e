
/-
  Merged texts: OrdY OrdZ OrdC.
-/
import Derived.Test.YthlbekookpcacaaOrdPX
import Derived.Test.YthlbekookpcacaaOrdST
import Derived.Test.YthlbekookpcacaaNums

/-
  The places of rooms in a line, and the line: the program's. (Walks.)
-/
namespace Go.Proofs.Ythlbekookpcacaa
open Go.RowKit

/-! # counting who is ahead -/
/-- the number of rooms ahead of one -/
def placeN (q : Nat → Nat → Bool) (r b : Nat) : Nat := (List.range r).countP fun a => q a b
theorem placeN_succ (q : Nat → Nat → Bool) (r b : Nat) : placeN q (r + 1) b = placeN q r b + (if q r b then 1 else 0) := by
  unfold placeN; rw [List.range_succ, List.countP_append, List.countP_singleton]
theorem placeN_le (q : Nat → Nat → Bool) (r b : Nat) : placeN q r b ≤ r := by
  unfold placeN; have := List.countP_le_length (p := fun a => q a b) (l := List.range r); rwa [List.length_range] at this
theorem placeN_lt {q : Nat → Nat → Bool} {r b : Nat} (hb : b < r) (hq : q b b = false) : placeN q r b < r := by
  rcases Nat.lt_or_ge (placeN q r b) r with h | h
  · exact h
  · exfalso
    have hall : (List.range r).countP (fun a => q a b) = (List.range r).length := by
      have := placeN_le q r b; unfold placeN at this h; rw [List.length_range]; omega
    rw [List.countP_eq_length] at hall
    have := hall b (List.mem_range.2 hb)
    rw [hq] at this; cases this
/-- the places once the first rooms, and of the next one the first pairs, are gone through -/
def placeL (q : Nat → Nat → Bool) (r i j : Nat) : List Nat := (List.range r).map fun b => placeN q i b + (if b < j ∧ q i b = true then 1 else 0)
theorem placeL_len (q : Nat → Nat → Bool) (r i j : Nat) : (placeL q r i j).length = r := by simp [placeL]
theorem placeL_at {q : Nat → Nat → Bool} {r i j b : Nat} (hb : b < r) : (placeL q r i j).getD b 0 = placeN q i b + (if b < j ∧ q i b = true then 1 else 0) := by simp [placeL, hb]
theorem placeL_zero (q : Nat → Nat → Bool) (r : Nat) : placeL q r 0 0 = List.replicate r 0 := by
  unfold placeL placeN
  simp [List.map_const']
theorem list_getD_ext {S T : List Nat} (hl : S.length = T.length) (h : ∀ b, b < S.length → S.getD b 0 = T.getD b 0) : S = T := by
  apply List.ext_getElem hl
  intro b h1 h2
  have := h b h1
  simpa [h1, h2] using this
theorem placeL_row (q : Nat → Nat → Bool) (r i : Nat) : placeL q r i r = placeL q r (i + 1) 0 := by
  apply list_getD_ext (by rw [placeL_len, placeL_len])
  intro b hb
  rw [placeL_len] at hb
  rw [placeL_at hb, placeL_at hb, placeN_succ]
  by_cases hq : q i b = true
  · rw [if_pos ⟨hb, hq⟩, if_pos hq, if_neg (by omega)]
  · rw [if_neg (fun e => hq e.2), if_neg hq, if_neg (by omega)]
theorem placeL_put {q : Nat → Nat → Bool} {r i j : Nat} (hj : j < r) (hq : q i j = true) : (placeL q r i j).set j ((placeL q r i j).getD j 0 + 1) = placeL q r i (j + 1) := by
  apply list_getD_ext (by rw [List.length_set, placeL_len, placeL_len])
  intro b hb
  rw [List.length_set, placeL_len] at hb
  rw [getD_set _ _ _ _ (by rw [placeL_len]; exact hj), placeL_at hb, placeL_at hj]
  by_cases hbj : b = j
  · subst hbj; rw [if_pos rfl, if_neg (by omega), placeL_at hb, if_pos ⟨by omega, hq⟩]
  · rw [if_neg hbj, placeL_at hb]
    by_cases h : b < j ∧ q i b = true
    · rw [if_pos h, if_pos ⟨by omega, h.2⟩]
    · rw [if_neg h, if_neg (fun e => h ⟨by omega, e.2⟩)]
theorem placeL_skip {q : Nat → Nat → Bool} {r i j : Nat} (hq : q i j = false) : placeL q r i j = placeL q r i (j + 1) := by
  apply list_getD_ext (by rw [placeL_len, placeL_len])
  intro b hb
  rw [placeL_len] at hb
  rw [placeL_at hb, placeL_at hb]
  by_cases h : b < j ∧ q i b = true
  · rw [if_pos h, if_pos ⟨by omega, h.2⟩]
  · rw [if_neg h, if_neg (fun e => ?_)]
    by_cases hbj : b = j
    · subst hbj; rw [hq] at e; cases e.2
    · exact h ⟨by omega, e.2⟩
def placesN (q : Nat → Nat → Bool) (r : Nat) : List Nat := placeL q r r 0
theorem placesN_at {q : Nat → Nat → Bool} {r b : Nat} (hb : b < r) : (placesN q r).getD b 0 = placeN q r b := by
  unfold placesN; rw [placeL_at hb, if_neg (by omega)]; rfl

/-- the line: each room at its place -/
def lineN (q : Nat → Nat → Bool) (r : Nat) : Nat → List Nat
  | 0 => List.replicate r 0
  | k + 1 => (lineN q r k).set (placeN q r k) k
theorem lineN_len (q : Nat → Nat → Bool) (r : Nat) : ∀ k, (lineN q r k).length = r
  | 0 => List.length_replicate
  | k + 1 => by rw [lineN, List.length_set]; exact lineN_len q r k
theorem lineN_lt (q : Nat → Nat → Bool) (r : Nat) : ∀ k, k ≤ r → ∀ i, i < r → (lineN q r k).getD i 0 < r
  | 0, _, i, hi => by simp [lineN, hi]; omega
  | k + 1, hk, i, hi => by
    rw [lineN]
    rcases Nat.lt_or_ge (placeN q r k) r with h | h
    · rw [getD_set _ _ _ _ (by rw [lineN_len]; exact h)]
      split
      · omega
      · exact lineN_lt q r k (by omega) i hi
    · rw [List.set_eq_of_length_le (by rw [lineN_len]; exact h)]
      exact lineN_lt q r k (by omega) i hi

theorem held_zeros {w : World} {base g n : Nat} (h : w.ownsRow base 3 1 (.slice (some ⟨g, 0, none⟩) n n) n (madeCells (Value.int .i64 0).cells (n * 1)).toList) : HeldB w g 3 (setsV (List.replicate n 0)) := by
  rw [show (.int .i64 0 : Value).cells = #[.int .i64 0] from rfl, Nat.mul_one, toList_madeCells_one] at h
  rcases h.2 with ⟨hv, h0⟩ | ⟨g', cap', cur, hv, hb, hg, h1, h2, h3, h4⟩
  · cases hv
  · simp only [Value.slice.injEq, Option.some.injEq, Addr.mk.injEq, and_true, true_and] at hv
    obtain ⟨rfl, rfl⟩ := hv
    rw [Nat.mul_one] at h3 h4
    rw [List.take_of_length_le (by rw [Array.length_toList]; omega)] at h4
    have hcur : cur = setsV (List.replicate n 0) := by
      apply Array.toList_inj.1
      rw [h4]
      simp [setsV]
    rw [← hcur]
    exact hg
theorem owns_sets {w : World} {base g : Nat} {S : List Nat} (h : HeldB w g 3 (setsV S)) (hb : base ≤ g) (hl : S.length ≤ maxLen) : w.ownsRow base 3 1 (.slice (some ⟨g, 0, none⟩) S.length S.length) S.length ((S.map fun m => ((m : Nat) : Int)).map (Value.int .i64)) := by
  refine ⟨by simp, .inr ⟨g, S.length, setsV S, rfl, hb, h, Nat.le_refl _, hl, by rw [setsV_size, Nat.mul_one], ?_⟩⟩
  rw [Nat.mul_one, List.take_of_length_le (by rw [Array.length_toList, setsV_size]; exact Nat.le_refl _)]
  simp [setsV]

/-! # the two questions -/
def firstQ (F : Nat → Nat → Nat → Bool) (a b : Nat) : Bool := F 0 a b || F 1 a b
def secondQ (F : Nat → Nat → Nat → Bool) (a b : Nat) : Bool := F 0 a b || F 1 b a
set_option maxRecDepth 100000 in
set_option maxHeartbeats 1600000 in
theorem isFirst_any {C : Array Value} (hC : C.size = 39) (F : Nat → Nat → Nat → Bool) (a b : Nat) (w : World) (ha : a < 9) (hb : b < 9) :
    Calls Try.prog 102 #[.agg (ordC C F), .int .i64 a, .int .i64 b] w fun e w' => e = .returned (.bool (firstQ F a b)) ∧ Below w.heap.size w w' := by
  have hB := HeldB.new w 66 (ordC C F)
  have hbl := below_alloc w (.cells (ordC C F) 66)
  have k1 := (hB.cell (39 + 0 * 81 + a * 9 + b)).trans (ordC_at hC F (by omega) ha hb)
  have k2 := (hB.cell (39 + 1 * 81 + a * 9 + b)).trans (ordC_at hC F (by omega) ha hb)
  rw [show 39 + 0 * 81 + a * 9 + b = 39 + a * 9 + b by omega] at k1
  rw [show 39 + 1 * 81 + a * 9 + b = 120 + a * 9 + b by omega] at k2
  unfold firstQ
  generalize ordC C F = D at *
  have ha9 : (a : Int) < 9 := by omega
  have hb9 : (b : Int) < 9 := by omega
  clear hB
  cases hx : F 0 a b
  · rw [hx] at k1
    go_enter Try.func102, Try.ntmps102
    go_wp2
    go_ret
    exact ⟨rfl, hbl⟩
  · rw [hx] at k1
    go_enter Try.func102, Try.ntmps102
    go_wp2
    go_ret
    exact ⟨rfl, hbl⟩
/-- where the places lie while rooms are counted -/
def PlSt (w : World) (D : Array Value) (S : List Nat) (wr : World) : Prop := HeldB wr w.heap.size 66 D ∧ HeldB wr (w.heap.size + 1) 3 (setsV S) ∧ Below w.heap.size w wr
theorem PlSt.below {w : World} {D : Array Value} {S : List Nat} {wr w1 : World} (h : PlSt w D S wr) (hb : Below wr.heap.size wr w1) : PlSt w D S w1 := ⟨h.1.below hb, h.2.1.below hb, below_step h.2.2 h.2.2.size hb⟩
theorem PlSt.put {w : World} {D : Array Value} {S T : List Nat} {wr : World} (h : PlSt w D S wr) (x m : Nat) (hT : S.set x m = T) : PlSt w D T (wr.setCell ⟨w.heap.size + 1, x, none⟩ (.int .i64 (m : Nat))) := by
  subst hT
  exact ⟨h.1.other (by simp) _, (h.2.1.set x _).eq (setsV_put S x m), h.2.2.setCell (p := ⟨w.heap.size + 1, x, none⟩) (by simp) _⟩

/-- places handed back -/
def PlRet (base : Nat) (S : List Nat) (e : Ending) (w' : World) : Prop := ∃ g, base ≤ g ∧ e = .returned (.slice (some ⟨g, 0, none⟩) S.length S.length) ∧ HeldB w' g 3 (setsV S)

end Go.Proofs.Ythlbekookpcacaa

/-
  The line of rooms, and the program's first and second orders. (Walks.)
-/
namespace Go.Proofs.Ythlbekookpcacaa
open Go.RowKit

/-- where the line lies while it is laid -/
def LiSt (w : World) (gp : Nat) (P S : List Nat) (wr : World) : Prop := HeldB wr (w.heap.size + 1) 3 (setsV S) ∧ HeldB wr gp 3 (setsV P) ∧ Below w.heap.size w wr
theorem LiSt.put {w : World} {gp : Nat} {P S T : List Nat} {wr : World} (hgp : w.heap.size + 1 < gp) (h : LiSt w gp P S wr) (x m : Nat) (hT : S.set x m = T) : LiSt w gp P T (wr.setCell ⟨w.heap.size + 1, x, none⟩ (.int .i64 (m : Nat))) := by
  subst hT
  exact ⟨(h.1.set x _).eq (setsV_put S x m), h.2.1.other (by simp; omega) _, h.2.2.setCell (p := ⟨w.heap.size + 1, x, none⟩) (by simp) _⟩

theorem oF_yes {p : List ByteArray} (h : plainB p = true) : oF p = pL p := by unfold oF; rw [if_pos h]; rfl
theorem firstQ_irr (p : List ByteArray) : ∀ b, b < oR p → firstQ (oF p) b b = false := fun b hb => by
  cases h : plainB p
  · unfold oR at hb; rw [h] at hb; simp at hb
  · have hb2 : b < gridR p := by unfold oR at hb; rwa [if_pos h] at hb
    rw [oF_yes h]; unfold firstQ
    rw [pL_self h hb2 0 (by omega), pL_self h hb2 1 (by omega)]; rfl
theorem secondQ_irr (p : List ByteArray) : ∀ b, b < oR p → secondQ (oF p) b b = false := fun b hb => by
  cases h : plainB p
  · unfold oR at hb; rw [h] at hb; simp at hb
  · have hb2 : b < gridR p := by unfold oR at hb; rwa [if_pos h] at hb
    rw [oF_yes h]; unfold secondQ
    rw [pL_self h hb2 0 (by omega), pL_self h hb2 1 (by omega)]; rfl
/-- whole numbers of naturals -/
def intsL (S : List Nat) : List Int := S.map fun m => ((m : Nat) : Int)
theorem intsL_len (S : List Nat) : (intsL S).length = S.length := by simp [intsL]
theorem nums_of {w : World} {base g : Nat} {S : List Nat} {b : Bool} (h : HeldB w g 3 (setsV S)) (hb : base ≤ g) (hl : S.length ≤ 9) : NumsRet base (intsL S) b (.returned (.tuple #[.slice (some ⟨g, 0, none⟩) S.length S.length, .bool b])) w := by
  have := owns_sets h hb (by unfold maxLen; omega)
  refine ⟨some ⟨g, 0, none⟩, S.length, by rw [intsL_len], ?_⟩
  rw [intsL_len]; exact this
def firstL (p : List ByteArray) : List Nat := lineN (firstQ (oF p)) (oR p) (oR p)
def secondL (p : List ByteArray) : List Nat := lineN (secondQ (oF p)) (oR p) (oR p)
theorem firstL_len (p : List ByteArray) : (firstL p).length = oR p := lineN_len _ _ _
theorem secondL_len (p : List ByteArray) : (secondL p).length = oR p := lineN_len _ _ _
end Go.Proofs.Ythlbekookpcacaa

/-
  The permutation of an order: what it is, and the program's. (Plain mathematics, and walks.)
-/
namespace Go.Proofs.Ythlbekookpcacaa
open Go.RowKit

/-- a question that puts the first numbers into a line -/
structure Lin (q : Nat → Nat → Bool) (r : Nat) : Prop where
  irr : ∀ a, a < r → q a a = false
  all : ∀ a b, a < r → b < r → a ≠ b → q a b = true ∨ q b a = true
  trans : ∀ a b c, a < r → b < r → c < r → q a b = true → q b c = true → q a c = true
theorem cnt_le {p p' : Nat → Bool} : ∀ n, (∀ x, x < n → p x = true → p' x = true) → (List.range n).countP p ≤ (List.range n).countP p'
  | 0, _ => Nat.le_refl _
  | n + 1, h => by
    have ih := cnt_le n (fun x hx => h x (by omega))
    have hn := h n (by omega)
    rw [List.range_succ, List.countP_append, List.countP_append, List.countP_singleton, List.countP_singleton]
    cases hp : p n
    · simp; omega
    · rw [hn hp]; simp; omega
theorem cnt_lt {p p' : Nat → Bool} {a : Nat} (ha2 : p' a = true) (ha1 : p a = false) : ∀ n, a < n → (∀ x, x < n → p x = true → p' x = true) → (List.range n).countP p < (List.range n).countP p'
  | 0, ha, _ => by omega
  | n + 1, ha, h => by
    have hn := h n (by omega)
    have hle := cnt_le (p := p) (p' := p') n (fun x hx => h x (by omega))
    rw [List.range_succ, List.countP_append, List.countP_append, List.countP_singleton, List.countP_singleton]
    by_cases hna : a = n
    · subst hna; rw [ha1, ha2]; simp; omega
    · have ih := cnt_lt ha2 ha1 n (by omega) (fun x hx => h x (by omega))
      cases hp : p n
      · simp; omega
      · rw [hn hp]; simp; omega
theorem Lin.mono {q : Nat → Nat → Bool} {r a b : Nat} (L : Lin q r) (ha : a < r) (hb : b < r) (h : q a b = true) : placeN q r a < placeN q r b :=
  cnt_lt (p := fun x => q x a) (p' := fun x => q x b) (a := a) h (L.irr a ha) r ha (fun x hx hxa => L.trans x a b hx ha hb hxa h)
theorem Lin.inj {q : Nat → Nat → Bool} {r a b : Nat} (L : Lin q r) (ha : a < r) (hb : b < r) (h : placeN q r a = placeN q r b) : a = b := by
  rcases Nat.decEq a b with hne | he
  · rcases L.all a b ha hb hne with h1 | h1
    · have := L.mono ha hb h1; omega
    · have := L.mono hb ha h1; omega
  · exact he
theorem Lin.lt {q : Nat → Nat → Bool} {r a : Nat} (L : Lin q r) (ha : a < r) : placeN q r a < r := placeN_lt ha (L.irr a ha)
theorem Lin.surj {q : Nat → Nat → Bool} {r k : Nat} (L : Lin q r) (hk : k < r) : ∃ x, x < r ∧ placeN q r x = k := by
  by_cases h : ∃ x, x < r ∧ placeN q r x = k
  · exact h
  · exfalso
    have hn : (k :: (List.range r).map (placeN q r)).Nodup := by
      rw [List.nodup_cons]
      refine ⟨fun hm => ?_, ?_⟩
      · obtain ⟨x, hx, e⟩ := List.mem_map.1 hm
        exact h ⟨x, List.mem_range.1 hx, e⟩
      · unfold List.Nodup
        rw [List.pairwise_map]
        refine List.Pairwise.imp_of_mem ?_ List.pairwise_lt_range
        intro a b ha hb hab e
        have := L.inj (List.mem_range.1 ha) (List.mem_range.1 hb) e
        omega
    have := nodup_lt r _ hn (fun x hx => by
      rw [List.mem_cons] at hx
      rcases hx with rfl | hx
      · exact hk
      · obtain ⟨y, hy, rfl⟩ := List.mem_map.1 hx
        exact L.lt (List.mem_range.1 hy))
    simp at this
    omega
theorem Lin.line_at {q : Nat → Nat → Bool} {r : Nat} (L : Lin q r) : ∀ k, k ≤ r → ∀ x, x < k → (lineN q r k).getD (placeN q r x) 0 = x
  | 0, _, x, hx => by omega
  | k + 1, hk, x, hx => by
    rw [lineN, getD_set _ _ _ _ (by rw [lineN_len]; exact L.lt (by omega))]
    by_cases he : placeN q r x = placeN q r k
    · rw [if_pos he]; exact (L.inj (by omega) (by omega) he).symm
    · rw [if_neg he]
      refine L.line_at k (by omega) x ?_
      rcases Nat.lt_or_ge x k with h | h
      · exact h
      · obtain rfl : x = k := by omega
        exact absurd rfl he
theorem Lin.line {q : Nat → Nat → Bool} {r x : Nat} (L : Lin q r) (hx : x < r) : (lineN q r r).getD (placeN q r x) 0 = x := L.line_at r (Nat.le_refl _) x hx
/-- the room at a place has that place -/
theorem Lin.back {q : Nat → Nat → Bool} {r k : Nat} (L : Lin q r) (hk : k < r) : placeN q r ((lineN q r r).getD k 0) = k ∧ (lineN q r r).getD k 0 < r := by
  obtain ⟨x, hx, e⟩ := L.surj hk
  have := L.line hx
  rw [e] at this
  rw [this]
  exact ⟨e, hx⟩

/-- the permutation: the place in one line of each room of the other one -/
def permQ (q1 q2 : Nat → Nat → Bool) (r : Nat) : List Nat := (List.range r).map fun i => placeN q1 r ((lineN q2 r r).getD i 0)
def permK (q1 q2 : Nat → Nat → Bool) (r k : Nat) : List Nat := (List.range r).map fun i => if i < k then placeN q1 r ((lineN q2 r r).getD i 0) else (lineN q2 r r).getD i 0
theorem permQ_len (q1 q2 : Nat → Nat → Bool) (r : Nat) : (permQ q1 q2 r).length = r := by simp [permQ]
theorem permK_len (q1 q2 : Nat → Nat → Bool) (r k : Nat) : (permK q1 q2 r k).length = r := by simp [permK]
theorem permK_at {q1 q2 : Nat → Nat → Bool} {r k i : Nat} (hi : i < r) : (permK q1 q2 r k).getD i 0 = if i < k then placeN q1 r ((lineN q2 r r).getD i 0) else (lineN q2 r r).getD i 0 := by simp [permK, hi]
theorem permK_zero (q1 q2 : Nat → Nat → Bool) (r : Nat) : permK q1 q2 r 0 = lineN q2 r r := by
  apply list_getD_ext (by rw [permK_len, lineN_len])
  intro i hi
  rw [permK_len] at hi
  rw [permK_at hi, if_neg (by omega)]
theorem permK_all (q1 q2 : Nat → Nat → Bool) (r : Nat) : permK q1 q2 r r = permQ q1 q2 r := by
  unfold permK permQ
  refine List.map_congr_left fun i hi => ?_
  rw [if_pos (List.mem_range.1 hi)]
theorem permK_put {q1 q2 : Nat → Nat → Bool} {r k : Nat} (hk : k < r) : (permK q1 q2 r k).set k (placeN q1 r ((lineN q2 r r).getD k 0)) = permK q1 q2 r (k + 1) := by
  apply list_getD_ext (by rw [List.length_set, permK_len, permK_len])
  intro i hi
  rw [List.length_set, permK_len] at hi
  rw [getD_set _ _ _ _ (by rw [permK_len]; exact hk), permK_at hi, permK_at hi]
  by_cases hik : i = k
  · subst hik; rw [if_pos rfl, if_pos (by omega)]
  · rw [if_neg hik]
    by_cases h : i < k
    · rw [if_pos h, if_pos (by omega)]
    · rw [if_neg h, if_neg (by omega)]

/-- where the permutation lies while it is made -/
def PeSt (w : World) (g1 g2 : Nat) (P S : List Nat) (wr : World) : Prop := HeldB wr g1 3 (setsV P) ∧ HeldB wr g2 3 (setsV S) ∧ Below w.heap.size w wr
theorem PeSt.put {w : World} {g1 g2 : Nat} {P S T : List Nat} {wr : World} (h1 : g1 ≠ g2) (h2 : w.heap.size ≤ g2) (h : PeSt w g1 g2 P S wr) (x m : Nat) (hT : S.set x m = T) : PeSt w g1 g2 P T (wr.setCell ⟨g2, x, none⟩ (.int .i64 (m : Nat))) := by
  subst hT
  exact ⟨h.1.other h1 _, (h.2.1.set x _).eq (setsV_put S x m), h.2.2.setCell (p := ⟨g2, x, none⟩) h2 _⟩

def permL (p : List ByteArray) : List Nat := permQ (firstQ (oF p)) (secondQ (oF p)) (oR p)
theorem permL_len (p : List ByteArray) : (permL p).length = oR p := permQ_len _ _ _
end Go.Proofs.Ythlbekookpcacaa
