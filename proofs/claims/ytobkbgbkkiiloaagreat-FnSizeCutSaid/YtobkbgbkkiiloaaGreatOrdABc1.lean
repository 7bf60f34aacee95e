/-
  Merged texts: OrdST OrdYZ OrdAB.
-/
import Derived.Test.YtobkbgbkkiiloaaGreatOrdPXc1
import Derived.Test.YtobkbgbkkiiloaaGreatSideSc1
import Derived.Test.YtobkbgbkkiiloaaGreatLongc1
import Derived.Test.YtobkbgbkkiiloaaGreatRowc1
import Derived.Test.YtobkbgbkkiiloaaGreatPointc1
import Derived.BigRegion
import Derived.Lib.AppendZeros

/-
  Merged texts: OrdS OrdT OrdU.
-/
/-
  The model's sets of rooms: as numbers whose bits tell the rooms. (Plain mathematics, and walks.)
-/
namespace Go.Proofs.YtobkbgbkkiiloaaGreat
open Go.RowKit

/-! # sets as numbers -/
def setsV (S : List Nat) : Array Value := (S.map fun m => Value.int .i64 ((m : Nat) : Int)).toArray
theorem setsV_at {S : List Nat} {i : Nat} (h : i < S.length) : (setsV S)[i]? = some (.int .i64 ((S.getD i 0 : Nat) : Int)) := by simp [setsV, h]
theorem setsV_put (S : List Nat) (i m : Nat) : (setsV S).setIfInBounds i (.int .i64 (m : Nat)) = setsV (S.set i m) := by
  unfold setsV; rw [List.map_set]; simp
structure IsSets (S : List Nat) (n : Nat) (f : Nat → Nat → Bool) : Prop where
  len : S.length = n
  low : ∀ a, a < n → S.getD a 0 < 512
  bit : ∀ a b, a < n → (S.getD a 0).testBit b = f a b
theorem IsSets.same {S : List Nat} {n : Nat} {f f' : Nat → Nat → Bool} (h : IsSets S n f) (he : ∀ a b, a < n → f a b = f' a b) : IsSets S n f' :=
  ⟨h.len, h.low, fun a b ha => by rw [h.bit a b ha, he a b ha]⟩
theorem getD_set (S : List Nat) (i a m : Nat) (hi : i < S.length) : (S.set i m).getD a 0 = if a = i then m else S.getD a 0 := by
  rw [List.getD_eq_getElem?_getD, List.getElem?_set, List.getD_eq_getElem?_getD]
  by_cases h : a = i
  · subst h; simp [hi]
  · rw [if_neg (fun e => h e.symm), if_neg h]
/-- a room told -/
theorem IsSets.put {S : List Nat} {n : Nat} {f f' : Nat → Nat → Bool} (h : IsSets S n f) {x y : Nat} (hx : x < n) (hy : y < 9) (hf : ∀ a b, f' a b = if a = x ∧ b = y then true else f a b) : IsSets (S.set x (S.getD x 0 ||| 2 ^ y)) n f' := by
  have hl := h.len
  refine ⟨by rw [List.length_set]; exact hl, fun a ha => ?_, fun a b ha => ?_⟩
  · rw [getD_set _ _ _ _ (by omega)]
    split
    · have : 2 ^ y < 2 ^ 9 := Nat.pow_lt_pow_right (by omega) hy
      exact Nat.or_lt_two_pow (n := 9) (h.low x hx) this
    · exact h.low a ha
  · rw [getD_set _ _ _ _ (by omega), hf]
    by_cases hax : a = x
    · subst hax
      rw [if_pos rfl, Nat.testBit_or, h.bit a b ha, Nat.testBit_two_pow]
      by_cases hb : y = b
      · subst hb; rw [if_pos ⟨rfl, rfl⟩]; simp
      · rw [if_neg (fun e => hb e.2.symm), decide_eq_false hb, Bool.or_false]
    · rw [if_neg hax, if_neg (fun e => hax e.1)]
      exact h.bit a b ha
end Go.Proofs.YtobkbgbkkiiloaaGreat

/-
  The model's rooms just led to. (Walk.)
-/
namespace Go.Proofs.YtobkbgbkkiiloaaGreat
open Go.RowKit

/-- walls as rows, of a base on -/
def WRows (w : World) (base : Nat) (ro : Option Addr) (L : List Wl) : Prop :=
  ∀ k, k < L.length → ∃ bb off gg cc, ro = some ⟨bb, off, none⟩ ∧ w.cell? ⟨bb, off + k, none⟩ = some (.slice (some ⟨gg, 0, none⟩) 4 cc) ∧ CellsAt w (some ⟨gg, 0, none⟩) ((wlN (L.getD k zeroWl)).map (Value.int .i64)) ∧ base ≤ bb ∧ base ≤ gg ∧ bb < w.heap.size ∧ gg < w.heap.size
theorem WRows.grown {w w' : World} {base : Nat} {ro : Option Addr} {L : List Wl} (h : WRows w base ro L) {row : Option Nat} (hg : w.grownBy w' row) (hr : ∀ k, row = some k → k < base ∨ w.heap.size ≤ k) : WRows w' base ro L := fun k hk => by
  obtain ⟨bb, off, gg, cc, h1, h2, h3, h4, h5, h6, h7⟩ := h k hk
  have n1 : some bb ≠ row := fun e => by have := hr bb e.symm; omega
  have n2 : some gg ≠ row := fun e => by have := hr gg e.symm; omega
  exact ⟨bb, off, gg, cc, h1, hg.cell h2 n1, h3.grown hg (fun a ha => by cases ha; exact n2), h4, h5, Nat.lt_of_lt_of_le h6 hg.size, Nat.lt_of_lt_of_le h7 hg.size⟩
theorem WRows.below {w w' : World} {base : Nat} {ro : Option Addr} {L : List Wl} (h : WRows w base ro L) (hb : Below w.heap.size w w') : WRows w' base ro L := h.grown (grownBy_of_below hb none) (fun k hk => by cases hk)
theorem gbCell (w : World) (b i : Nat) (v : Value) : w.grownBy (w.setCell ⟨b, i, none⟩ v) (some b) :=
  ⟨rfl, rfl, rfl, (KeepsWalks.setCell w _ v).size, fun k _ hk => Below.heap_setCell _ _ _ k (fun e => hk (by rw [e]))⟩
/-- where the model's sets lie while they are told -/
def JuSt (w : World) (ao : Option Addr) (p : List ByteArray) (ro : Option Addr) (L : List Wl) (S : List Nat) (wr : World) : Prop :=
  HeldB wr w.heap.size 3 (setsV S) ∧ WRows wr (w.heap.size + 1) ro L ∧ CellsAt wr ao (p.map Value.string) ∧ Below w.heap.size w wr ∧ w.heap.size + 1 ≤ wr.heap.size
theorem JuSt.below {w : World} {ao : Option Addr} {p : List ByteArray} {ro : Option Addr} {L : List Wl} {S : List Nat} {wr w1 : World} (h : JuSt w ao p ro L S wr) (hb : Below wr.heap.size wr w1) : JuSt w ao p ro L S w1 :=
  ⟨h.1.below hb, h.2.1.below hb, h.2.2.1.below hb, below_step h.2.2.2.1 h.2.2.2.1.size hb, Nat.le_trans h.2.2.2.2 hb.size⟩
theorem JuSt.put {w : World} {ao : Option Addr} {p : List ByteArray} (hao : ∀ a, ao = some a → a.block < w.heap.size) {ro : Option Addr} {L : List Wl} {S : List Nat} {wr : World} (h : JuSt w ao p ro L S wr) (x m : Nat) :
    JuSt w ao p ro L (S.set x m) (wr.setCell ⟨w.heap.size, x, none⟩ (.int .i64 (m : Nat))) := by
  have hg := gbCell wr w.heap.size x (.int .i64 (m : Nat))
  refine ⟨(h.1.set x _).eq (setsV_put S x m), h.2.1.grown hg (fun k hk => .inl (by have := Option.some.inj hk; omega)), h.2.2.1.grown hg (fun a ha e => by have := hao a ha; have := Option.some.inj e; omega), h.2.2.2.1.setCell (p := ⟨w.heap.size, x, none⟩) (by simp) _, Nat.le_trans h.2.2.2.2 hg.size⟩

end Go.Proofs.YtobkbgbkkiiloaaGreat

/-
  The model's rooms led to in the end, and its answers about two rooms. (Walks.)
-/
namespace Go.Proofs.YtobkbgbkkiiloaaGreat
open Go.RowKit

end Go.Proofs.YtobkbgbkkiiloaaGreat

/-
  Merged texts: OrdY OrdZ OrdC.
-/
/-
  The places of rooms in a line, and the line: the program's. (Walks.)
-/
namespace Go.Proofs.YtobkbgbkkiiloaaGreat
open Go.RowKit

/-! # counting who is ahead -/
/-- the number of rooms ahead of one -/
def placeN (q : Nat → Nat → Bool) (r b : Nat) : Nat := (List.range r).countP fun a => q a b
theorem placeN_le (q : Nat → Nat → Bool) (r b : Nat) : placeN q r b ≤ r := by
  unfold placeN; have := List.countP_le_length (p := fun a => q a b) (l := List.range r); rwa [List.length_range] at this
theorem placeN_lt {q : Nat → Nat → Bool} {r b : Nat} (hb : b < r) (hq : q b b = false) : placeN q r b < r := by
  rcases Nat.lt_or_ge (placeN q r b) r with h | h
  · exact h
  · exfalso
    have hall : (List.range r).countP (fun a => q a b) = (List.range r).length := by
      have := placeN_le q r b; unfold placeN at this h; rw [List.length_range]; omega
    rw [List.countP_eq_length] at hall
    have := hall b (List.mem_range.2 hb)
    rw [hq] at this; cases this
theorem list_getD_ext {S T : List Nat} (hl : S.length = T.length) (h : ∀ b, b < S.length → S.getD b 0 = T.getD b 0) : S = T := by
  apply List.ext_getElem hl
  intro b h1 h2
  have := h b h1
  simpa [h1, h2] using this
/-- the line: each room at its place -/
def lineN (q : Nat → Nat → Bool) (r : Nat) : Nat → List Nat
  | 0 => List.replicate r 0
  | k + 1 => (lineN q r k).set (placeN q r k) k
theorem lineN_len (q : Nat → Nat → Bool) (r : Nat) : ∀ k, (lineN q r k).length = r
  | 0 => List.length_replicate
  | k + 1 => by rw [lineN, List.length_set]; exact lineN_len q r k
theorem held_zeros {w : World} {base g n : Nat} (h : w.ownsRow base 3 1 (.slice (some ⟨g, 0, none⟩) n n) n (madeCells (Value.int .i64 0).cells (n * 1)).toList) : HeldB w g 3 (setsV (List.replicate n 0)) := by
  rw [show (.int .i64 0 : Value).cells = #[.int .i64 0] from rfl, Nat.mul_one, toList_madeCells_one] at h
  rcases h.2 with ⟨hv, h0⟩ | ⟨g', cap', cur, hv, hb, hg, h1, h2, h3, h4⟩
  · cases hv
  · simp only [Value.slice.injEq, Option.some.injEq, Addr.mk.injEq, and_true, true_and] at hv
    obtain ⟨rfl, rfl⟩ := hv
    rw [Nat.mul_one] at h3 h4
    rw [List.take_of_length_le (by rw [Array.length_toList]; omega)] at h4
    have hcur : cur = setsV (List.replicate n 0) := by
      apply Array.toList_inj.1
      rw [h4]
      simp [setsV]
    rw [← hcur]
    exact hg
/-! # the two questions -/
def firstQ (F : Nat → Nat → Nat → Bool) (a b : Nat) : Bool := F 0 a b || F 1 a b
set_option maxRecDepth 100000 in
set_option maxHeartbeats 1600000 in
theorem isFirst_any {C : Array Value} (hC : C.size = 39) (F : Nat → Nat → Nat → Bool) (a b : Nat) (w : World) (ha : a < 9) (hb : b < 9) :
    Calls Tryz.prog 58 #[.agg (ordC C F), .int .i64 a, .int .i64 b] w fun e w' => e = .returned (.bool (firstQ F a b)) ∧ Below w.heap.size w w' := by
  have hB := HeldB.new w 47 (ordC C F)
  have hbl := below_alloc w (.cells (ordC C F) 47)
  have k1 := (hB.cell (39 + 0 * 81 + a * 9 + b)).trans (ordC_at hC F (by omega) ha hb)
  have k2 := (hB.cell (39 + 1 * 81 + a * 9 + b)).trans (ordC_at hC F (by omega) ha hb)
  rw [show 39 + 0 * 81 + a * 9 + b = 39 + a * 9 + b by omega] at k1
  rw [show 39 + 1 * 81 + a * 9 + b = 120 + a * 9 + b by omega] at k2
  unfold firstQ
  generalize ordC C F = D at *
  have ha9 : (a : Int) < 9 := by omega
  have hb9 : (b : Int) < 9 := by omega
  clear hB
  cases hx : F 0 a b
  · rw [hx] at k1
    go_enter Tryz.func58, Tryz.ntmps58
    go_wp2
    go_ret
    exact ⟨rfl, hbl⟩
  · rw [hx] at k1
    go_enter Tryz.func58, Tryz.ntmps58
    go_wp2
    go_ret
    exact ⟨rfl, hbl⟩
/-- where the places lie while rooms are counted -/
def PlSt (w : World) (D : Array Value) (S : List Nat) (wr : World) : Prop := HeldB wr w.heap.size 47 D ∧ HeldB wr (w.heap.size + 1) 3 (setsV S) ∧ Below w.heap.size w wr
theorem PlSt.below {w : World} {D : Array Value} {S : List Nat} {wr w1 : World} (h : PlSt w D S wr) (hb : Below wr.heap.size wr w1) : PlSt w D S w1 := ⟨h.1.below hb, h.2.1.below hb, below_step h.2.2 h.2.2.size hb⟩
theorem PlSt.put {w : World} {D : Array Value} {S T : List Nat} {wr : World} (h : PlSt w D S wr) (x m : Nat) (hT : S.set x m = T) : PlSt w D T (wr.setCell ⟨w.heap.size + 1, x, none⟩ (.int .i64 (m : Nat))) := by
  subst hT
  exact ⟨h.1.other (by simp) _, (h.2.1.set x _).eq (setsV_put S x m), h.2.2.setCell (p := ⟨w.heap.size + 1, x, none⟩) (by simp) _⟩

/-- places handed back -/
def PlRet (base : Nat) (S : List Nat) (e : Ending) (w' : World) : Prop := ∃ g, base ≤ g ∧ e = .returned (.slice (some ⟨g, 0, none⟩) S.length S.length) ∧ HeldB w' g 3 (setsV S)

end Go.Proofs.YtobkbgbkkiiloaaGreat

/-
  The line of rooms, and the program's first and second orders. (Walks.)
-/
namespace Go.Proofs.YtobkbgbkkiiloaaGreat
open Go.RowKit

/-- where the line lies while it is laid -/
def LiSt (w : World) (gp : Nat) (P S : List Nat) (wr : World) : Prop := HeldB wr (w.heap.size + 1) 3 (setsV S) ∧ HeldB wr gp 3 (setsV P) ∧ Below w.heap.size w wr
theorem LiSt.put {w : World} {gp : Nat} {P S T : List Nat} {wr : World} (hgp : w.heap.size + 1 < gp) (h : LiSt w gp P S wr) (x m : Nat) (hT : S.set x m = T) : LiSt w gp P T (wr.setCell ⟨w.heap.size + 1, x, none⟩ (.int .i64 (m : Nat))) := by
  subst hT
  exact ⟨(h.1.set x _).eq (setsV_put S x m), h.2.1.other (by simp; omega) _, h.2.2.setCell (p := ⟨w.heap.size + 1, x, none⟩) (by simp) _⟩

theorem oF_yes {p : List ByteArray} (h : plainB p = true) : oF p = pL p := by unfold oF; rw [if_pos h]; rfl
theorem firstQ_irr (p : List ByteArray) : ∀ b, b < oR p → firstQ (oF p) b b = false := fun b hb => by
  cases h : plainB p
  · unfold oR at hb; rw [h] at hb; simp at hb
  · have hb2 : b < gridR p := by unfold oR at hb; rwa [if_pos h] at hb
    rw [oF_yes h]; unfold firstQ
    rw [pL_self h hb2 0 (by omega), pL_self h hb2 1 (by omega)]; rfl
end Go.Proofs.YtobkbgbkkiiloaaGreat

/-
  The permutation of an order: what it is, and the program's. (Plain mathematics, and walks.)
-/
namespace Go.Proofs.YtobkbgbkkiiloaaGreat
open Go.RowKit

/-- a question that puts the first numbers into a line -/
structure Lin (q : Nat → Nat → Bool) (r : Nat) : Prop where
  irr : ∀ a, a < r → q a a = false
  all : ∀ a b, a < r → b < r → a ≠ b → q a b = true ∨ q b a = true
  trans : ∀ a b c, a < r → b < r → c < r → q a b = true → q b c = true → q a c = true
theorem cnt_le {p p' : Nat → Bool} : ∀ n, (∀ x, x < n → p x = true → p' x = true) → (List.range n).countP p ≤ (List.range n).countP p'
  | 0, _ => Nat.le_refl _
  | n + 1, h => by
    have ih := cnt_le n (fun x hx => h x (by omega))
    have hn := h n (by omega)
    rw [List.range_succ, List.countP_append, List.countP_append, List.countP_singleton, List.countP_singleton]
    cases hp : p n
    · simp; omega
    · rw [hn hp]; simp; omega
theorem cnt_lt {p p' : Nat → Bool} {a : Nat} (ha2 : p' a = true) (ha1 : p a = false) : ∀ n, a < n → (∀ x, x < n → p x = true → p' x = true) → (List.range n).countP p < (List.range n).countP p'
  | 0, ha, _ => by omega
  | n + 1, ha, h => by
    have hn := h n (by omega)
    have hle := cnt_le (p := p) (p' := p') n (fun x hx => h x (by omega))
    rw [List.range_succ, List.countP_append, List.countP_append, List.countP_singleton, List.countP_singleton]
    by_cases hna : a = n
    · subst hna; rw [ha1, ha2]; simp; omega
    · have ih := cnt_lt ha2 ha1 n (by omega) (fun x hx => h x (by omega))
      cases hp : p n
      · simp; omega
      · rw [hn hp]; simp; omega
theorem Lin.mono {q : Nat → Nat → Bool} {r a b : Nat} (L : Lin q r) (ha : a < r) (hb : b < r) (h : q a b = true) : placeN q r a < placeN q r b :=
  cnt_lt (p := fun x => q x a) (p' := fun x => q x b) (a := a) h (L.irr a ha) r ha (fun x hx hxa => L.trans x a b hx ha hb hxa h)
theorem Lin.inj {q : Nat → Nat → Bool} {r a b : Nat} (L : Lin q r) (ha : a < r) (hb : b < r) (h : placeN q r a = placeN q r b) : a = b := by
  rcases Nat.decEq a b with hne | he
  · rcases L.all a b ha hb hne with h1 | h1
    · have := L.mono ha hb h1; omega
    · have := L.mono hb ha h1; omega
  · exact he
theorem Lin.lt {q : Nat → Nat → Bool} {r a : Nat} (L : Lin q r) (ha : a < r) : placeN q r a < r := placeN_lt ha (L.irr a ha)
theorem Lin.surj {q : Nat → Nat → Bool} {r k : Nat} (L : Lin q r) (hk : k < r) : ∃ x, x < r ∧ placeN q r x = k := by
  by_cases h : ∃ x, x < r ∧ placeN q r x = k
  · exact h
  · exfalso
    have hn : (k :: (List.range r).map (placeN q r)).Nodup := by
      rw [List.nodup_cons]
      refine ⟨fun hm => ?_, ?_⟩
      · obtain ⟨x, hx, e⟩ := List.mem_map.1 hm
        exact h ⟨x, List.mem_range.1 hx, e⟩
      · unfold List.Nodup
        rw [List.pairwise_map]
        refine List.Pairwise.imp_of_mem ?_ List.pairwise_lt_range
        intro a b ha hb hab e
        have := L.inj (List.mem_range.1 ha) (List.mem_range.1 hb) e
        omega
    have := nodup_lt r _ hn (fun x hx => by
      rw [List.mem_cons] at hx
      rcases hx with rfl | hx
      · exact hk
      · obtain ⟨y, hy, rfl⟩ := List.mem_map.1 hx
        exact L.lt (List.mem_range.1 hy))
    simp at this
    omega
theorem Lin.line_at {q : Nat → Nat → Bool} {r : Nat} (L : Lin q r) : ∀ k, k ≤ r → ∀ x, x < k → (lineN q r k).getD (placeN q r x) 0 = x
  | 0, _, x, hx => by omega
  | k + 1, hk, x, hx => by
    rw [lineN, getD_set _ _ _ _ (by rw [lineN_len]; exact L.lt (by omega))]
    by_cases he : placeN q r x = placeN q r k
    · rw [if_pos he]; exact (L.inj (by omega) (by omega) he).symm
    · rw [if_neg he]
      refine L.line_at k (by omega) x ?_
      rcases Nat.lt_or_ge x k with h | h
      · exact h
      · obtain rfl : x = k := by omega
        exact absurd rfl he
theorem Lin.line {q : Nat → Nat → Bool} {r x : Nat} (L : Lin q r) (hx : x < r) : (lineN q r r).getD (placeN q r x) 0 = x := L.line_at r (Nat.le_refl _) x hx
/-- the room at a place has that place -/
theorem Lin.back {q : Nat → Nat → Bool} {r k : Nat} (L : Lin q r) (hk : k < r) : placeN q r ((lineN q r r).getD k 0) = k ∧ (lineN q r r).getD k 0 < r := by
  obtain ⟨x, hx, e⟩ := L.surj hk
  have := L.line hx
  rw [e] at this
  rw [this]
  exact ⟨e, hx⟩

/-- where the permutation lies while it is made -/
def PeSt (w : World) (g1 g2 : Nat) (P S : List Nat) (wr : World) : Prop := HeldB wr g1 3 (setsV P) ∧ HeldB wr g2 3 (setsV S) ∧ Below w.heap.size w wr
theorem PeSt.put {w : World} {g1 g2 : Nat} {P S T : List Nat} {wr : World} (h1 : g1 ≠ g2) (h2 : w.heap.size ≤ g2) (h : PeSt w g1 g2 P S wr) (x m : Nat) (hT : S.set x m = T) : PeSt w g1 g2 P T (wr.setCell ⟨g2, x, none⟩ (.int .i64 (m : Nat))) := by
  subst hT
  exact ⟨h.1.other h1 _, (h.2.1.set x _).eq (setsV_put S x m), h.2.2.setCell (p := ⟨g2, x, none⟩) h2 _⟩

end Go.Proofs.YtobkbgbkkiiloaaGreat

/-
  Merged texts: OrdV OrdA OrdB OrdD.
-/
/-
  The model's answers about two rooms: left, above, the kind. (Walks.)
-/
namespace Go.Proofs.YtobkbgbkkiiloaaGreat
open Go.RowKit

theorem l5Plain_any (ao : Option Addr) (cap : Nat) (p : List ByteArray) (w : World) (hl : p.length ≤ 1048576) (hs : ∀ s ∈ p, s.size ≤ 1048576) (hc : CellsAt w ao (p.map Value.string)) :
    Calls Tryz.prog 51 #[.slice ao p.length cap] w fun e w' => e = .returned (.bool (plainB p)) ∧ Below w.heap.size w w' := by
  have HP := Lib.hid (fun w hc => specWallPlain_any ao cap p w hl hs hc)
  unfold plainB
  generalize (planB p && decide (meetN p 4 = 0)) = x at *
  go_enter Tryz.func51, Tryz.ntmps51
  go_wp2_with (go_at_call 79; refine (HP.out _ hc).mono ?_; rintro e w1 ⟨rfl, hb1⟩)
  go_ret
  exact ⟨rfl, hb1⟩
end Go.Proofs.YtobkbgbkkiiloaaGreat

/-
  The model's lines of rooms. (Walks.)
-/
namespace Go.Proofs.YtobkbgbkkiiloaaGreat
open Go.RowKit

theorem oR_yes {p : List ByteArray} (h : plainB p = true) : oR p = gridR p := by unfold oR; rw [if_pos h]
/-- where the model's line lies -/
def SoSt (w : World) (g5 g6 gp : Nat) (S T L : List Nat) (wr : World) : Prop := HeldB wr g5 3 (setsV S) ∧ HeldB wr g6 3 (setsV T) ∧ HeldB wr gp 3 (setsV L) ∧ Below w.heap.size w wr
theorem SoSt.put {w : World} {g5 g6 gp : Nat} {S T L M : List Nat} {wr : World} (h1 : g5 ≠ gp) (h2 : g6 ≠ gp) (h3 : w.heap.size ≤ gp) (h : SoSt w g5 g6 gp S T L wr) (x m : Nat) (hM : L.set x m = M) : SoSt w g5 g6 gp S T M (wr.setCell ⟨gp, x, none⟩ (.int .i64 (m : Nat))) := by
  subst hM
  exact ⟨h.1.other h1 _, h.2.1.other h2 _, (h.2.2.1.set x _).eq (setsV_put L x m), h.2.2.2.setCell (p := ⟨gp, x, none⟩) h3 _⟩

end Go.Proofs.YtobkbgbkkiiloaaGreat

/-
  The model's first and second orders. (Walks.)
-/
namespace Go.Proofs.YtobkbgbkkiiloaaGreat
open Go.RowKit

end Go.Proofs.YtobkbgbkkiiloaaGreat

/-
  The permutation of an order: the model's. (Plain mathematics, and walks.)
-/
namespace Go.Proofs.YtobkbgbkkiiloaaGreat
open Go.RowKit

/-- both orders of a plain plan are lines -/
theorem first_lin {p : List ByteArray} (h : plainB p = true) : Lin (firstQ (pL p)) (gridR p) := by
  have or4 : ∀ a b : Nat, firstQ (pL p) a b = true ↔ pL p 0 a b = true ∨ pL p 1 a b = true := fun a b => by unfold firstQ; rw [Bool.or_eq_true]
  refine ⟨fun a ha => ?_, fun a b ha hb hne => ?_, fun a b c ha hb hc h1 h2 => ?_⟩
  · have := firstQ_irr p a (by rw [oR_yes h]; exact ha); rwa [oF_yes h] at this
  · rw [or4, or4]
    rcases pL_some (plainB_plan h) ha hb hne with e | e | e | e
    · exact .inl (.inl e)
    · exact .inr (.inl e)
    · exact .inl (.inr e)
    · exact .inr (.inr e)
  · rw [or4] at h1 h2
    rw [or4]
    by_cases hac : a = c
    · subst hac
      exfalso
      rcases h1 with h1 | h1 <;> rcases h2 with h2 | h2
      · rw [(pL_one h ha hb h1).1] at h2; cases h2
      · rw [(pL_one h ha hb h1).2.2] at h2; cases h2
      · rw [(pL_over h ha hb h1).2.2] at h2; cases h2
      · rw [(pL_over h ha hb h1).1] at h2; cases h2
    · rcases pL_some (plainB_plan h) ha hc hac with e | e | e | e
      · exact .inl e
      · exfalso
        -- c is left of a
        rcases h1 with h1 | h1
        · have hcb := pL_trans (by omega) e h1
          rcases h2 with h2 | h2
          · rw [(pL_one h hc hb hcb).1] at h2; cases h2
          · rw [(pL_one h hc hb hcb).2.2] at h2; cases h2
        · rcases h2 with h2 | h2
          · have hba := pL_trans (by omega) h2 e
            rw [(pL_one h hb ha hba).2.2] at h1; cases h1
          · have hca := pL_trans (by omega) h1 h2
            rw [(pL_over h ha hc hca).2.2] at e; cases e
      · exact .inr e
      · exfalso
        rcases h1 with h1 | h1
        · rcases h2 with h2 | h2
          · have hca := pL_trans (by omega) h1 h2
            rw [(pL_one h ha hc hca).2.2] at e; cases e
          · have hba := pL_trans (by omega) h2 e
            rw [(pL_over h hb ha hba).2.2] at h1; cases h1
        · have hcb := pL_trans (by omega) e h1
          rcases h2 with h2 | h2
          · rw [(pL_over h hc hb hcb).2.2] at h2; cases h2
          · rw [(pL_over h hc hb hcb).1] at h2; cases h2
end Go.Proofs.YtobkbgbkkiiloaaGreat
