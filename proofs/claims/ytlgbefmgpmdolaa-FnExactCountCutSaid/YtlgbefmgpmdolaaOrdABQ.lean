/-
  Merged texts: OrdST OrdYZ OrdAB.
-/
import Derived.Test.YtlgbefmgpmdolaaOrdPXQ
import Derived.Test.YtlgbefmgpmdolaaSideSQ
import Derived.Test.YtlgbefmgpmdolaaLongQ
import Derived.Test.YtlgbefmgpmdolaaNumsQ
import Derived.Test.YtlgbefmgpmdolaaSpecWXQ
import Derived.BigQuiet
import Derived.StillTailTactics
import Derived.BigRegion
import Derived.Lib.AppendZeros

/-
  Merged texts: OrdS OrdT OrdU.
-/
/-
  The model's sets of rooms: as numbers whose bits tell the rooms. (Plain mathematics, and walks.)
-/
namespace Go.Proofs.Ytlgbefmgpmdolaa
open Go.RowKit

/-! # sets as numbers -/
def setsV (S : List Nat) : Array Value := (S.map fun m => Value.int .i64 ((m : Nat) : Int)).toArray
theorem setsV_size (S : List Nat) : (setsV S).size = S.length := by simp [setsV]
theorem setsV_at {S : List Nat} {i : Nat} (h : i < S.length) : (setsV S)[i]? = some (.int .i64 ((S.getD i 0 : Nat) : Int)) := by simp [setsV, h]
theorem setsV_put (S : List Nat) (i m : Nat) : (setsV S).setIfInBounds i (.int .i64 (m : Nat)) = setsV (S.set i m) := by
  unfold setsV; rw [List.map_set]; simp
structure IsSets (S : List Nat) (n : Nat) (f : Nat → Nat → Bool) : Prop where
  len : S.length = n
  low : ∀ a, a < n → S.getD a 0 < 512
  bit : ∀ a b, a < n → (S.getD a 0).testBit b = f a b
theorem IsSets.same {S : List Nat} {n : Nat} {f f' : Nat → Nat → Bool} (h : IsSets S n f) (he : ∀ a b, a < n → f a b = f' a b) : IsSets S n f' :=
  ⟨h.len, h.low, fun a b ha => by rw [h.bit a b ha, he a b ha]⟩
theorem getD_set (S : List Nat) (i a m : Nat) (hi : i < S.length) : (S.set i m).getD a 0 = if a = i then m else S.getD a 0 := by
  rw [List.getD_eq_getElem?_getD, List.getElem?_set, List.getD_eq_getElem?_getD]
  by_cases h : a = i
  · subst h; simp [hi]
  · rw [if_neg (fun e => h e.symm), if_neg h]
/-- a room told -/
theorem IsSets.put {S : List Nat} {n : Nat} {f f' : Nat → Nat → Bool} (h : IsSets S n f) {x y : Nat} (hx : x < n) (hy : y < 9) (hf : ∀ a b, f' a b = if a = x ∧ b = y then true else f a b) : IsSets (S.set x (S.getD x 0 ||| 2 ^ y)) n f' := by
  have hl := h.len
  refine ⟨by rw [List.length_set]; exact hl, fun a ha => ?_, fun a b ha => ?_⟩
  · rw [getD_set _ _ _ _ (by omega)]
    split
    · have : 2 ^ y < 2 ^ 9 := Nat.pow_lt_pow_right (by omega) hy
      exact Nat.or_lt_two_pow (n := 9) (h.low x hx) this
    · exact h.low a ha
  · rw [getD_set _ _ _ _ (by omega), hf]
    by_cases hax : a = x
    · subst hax
      rw [if_pos rfl, Nat.testBit_or, h.bit a b ha, Nat.testBit_two_pow]
      by_cases hb : y = b
      · subst hb; rw [if_pos ⟨rfl, rfl⟩]; simp
      · rw [if_neg (fun e => hb e.2.symm), decide_eq_false hb, Bool.or_false]
    · rw [if_neg hax, if_neg (fun e => hax e.1)]
      exact h.bit a b ha
end Go.Proofs.Ytlgbefmgpmdolaa

/-
  The model's rooms just led to. (Walk.)
-/
namespace Go.Proofs.Ytlgbefmgpmdolaa
open Go.RowKit

/-- walls as rows, of a base on -/
def WRows (w : World) (base : Nat) (ro : Option Addr) (L : List Wl) : Prop :=
  ∀ k, k < L.length → ∃ bb off gg cc, ro = some ⟨bb, off, none⟩ ∧ w.cell? ⟨bb, off + k, none⟩ = some (.slice (some ⟨gg, 0, none⟩) 4 cc) ∧ CellsAt w (some ⟨gg, 0, none⟩) ((wlN (L.getD k zeroWl)).map (Value.int .i64)) ∧ base ≤ bb ∧ base ≤ gg ∧ bb < w.heap.size ∧ gg < w.heap.size
theorem WRows.grown {w w' : World} {base : Nat} {ro : Option Addr} {L : List Wl} (h : WRows w base ro L) {row : Option Nat} (hg : w.grownBy w' row) (hr : ∀ k, row = some k → k < base ∨ w.heap.size ≤ k) : WRows w' base ro L := fun k hk => by
  obtain ⟨bb, off, gg, cc, h1, h2, h3, h4, h5, h6, h7⟩ := h k hk
  have n1 : some bb ≠ row := fun e => by have := hr bb e.symm; omega
  have n2 : some gg ≠ row := fun e => by have := hr gg e.symm; omega
  exact ⟨bb, off, gg, cc, h1, hg.cell h2 n1, h3.grown hg (fun a ha => by cases ha; exact n2), h4, h5, Nat.lt_of_lt_of_le h6 hg.size, Nat.lt_of_lt_of_le h7 hg.size⟩
theorem WRows.below {w w' : World} {base : Nat} {ro : Option Addr} {L : List Wl} (h : WRows w base ro L) (hb : Below w.heap.size w w') : WRows w' base ro L := h.grown (grownBy_of_below hb none) (fun k hk => by cases hk)
theorem gbCell (w : World) (b i : Nat) (v : Value) : w.grownBy (w.setCell ⟨b, i, none⟩ v) (some b) :=
  ⟨rfl, rfl, rfl, (KeepsWalks.setCell w _ v).size, fun k _ hk => Below.heap_setCell _ _ _ k (fun e => hk (by rw [e]))⟩
/-- where the model's sets lie while they are told -/
def JuSt (w : World) (ao : Option Addr) (p : List ByteArray) (ro : Option Addr) (L : List Wl) (S : List Nat) (wr : World) : Prop :=
  HeldB wr w.heap.size 3 (setsV S) ∧ WRows wr (w.heap.size + 1) ro L ∧ CellsAt wr ao (p.map Value.string) ∧ Below w.heap.size w wr ∧ w.heap.size + 1 ≤ wr.heap.size
theorem JuSt.below {w : World} {ao : Option Addr} {p : List ByteArray} {ro : Option Addr} {L : List Wl} {S : List Nat} {wr w1 : World} (h : JuSt w ao p ro L S wr) (hb : Below wr.heap.size wr w1) : JuSt w ao p ro L S w1 :=
  ⟨h.1.below hb, h.2.1.below hb, h.2.2.1.below hb, below_step h.2.2.2.1 h.2.2.2.1.size hb, Nat.le_trans h.2.2.2.2 hb.size⟩
theorem JuSt.put {w : World} {ao : Option Addr} {p : List ByteArray} (hao : ∀ a, ao = some a → a.block < w.heap.size) {ro : Option Addr} {L : List Wl} {S : List Nat} {wr : World} (h : JuSt w ao p ro L S wr) (x m : Nat) :
    JuSt w ao p ro L (S.set x m) (wr.setCell ⟨w.heap.size, x, none⟩ (.int .i64 (m : Nat))) := by
  have hg := gbCell wr w.heap.size x (.int .i64 (m : Nat))
  refine ⟨(h.1.set x _).eq (setsV_put S x m), h.2.1.grown hg (fun k hk => .inl (by have := Option.some.inj hk; omega)), h.2.2.1.grown hg (fun a ha e => by have := hao a ha; have := Option.some.inj e; omega), h.2.2.2.1.setCell (p := ⟨w.heap.size, x, none⟩) (by simp) _, Nat.le_trans h.2.2.2.2 hg.size⟩

end Go.Proofs.Ytlgbefmgpmdolaa

/-
  The model's rooms led to in the end, and its answers about two rooms. (Walks.)
-/
namespace Go.Proofs.Ytlgbefmgpmdolaa
open Go.RowKit

end Go.Proofs.Ytlgbefmgpmdolaa

/-
  Merged texts: OrdY OrdZ OrdC.
-/
/-
  The places of rooms in a line, and the line: the program's. (Walks.)
-/
namespace Go.Proofs.Ytlgbefmgpmdolaa
open Go.RowKit

/-! # counting who is ahead -/
/-- the number of rooms ahead of one -/
def placeN (q : Nat → Nat → Bool) (r b : Nat) : Nat := (List.range r).countP fun a => q a b
theorem placeN_le (q : Nat → Nat → Bool) (r b : Nat) : placeN q r b ≤ r := by
  unfold placeN; have := List.countP_le_length (p := fun a => q a b) (l := List.range r); rwa [List.length_range] at this
theorem placeN_lt {q : Nat → Nat → Bool} {r b : Nat} (hb : b < r) (hq : q b b = false) : placeN q r b < r := by
  rcases Nat.lt_or_ge (placeN q r b) r with h | h
  · exact h
  · exfalso
    have hall : (List.range r).countP (fun a => q a b) = (List.range r).length := by
      have := placeN_le q r b; unfold placeN at this h; rw [List.length_range]; omega
    rw [List.countP_eq_length] at hall
    have := hall b (List.mem_range.2 hb)
    rw [hq] at this; cases this
/-- the line: each room at its place -/
def lineN (q : Nat → Nat → Bool) (r : Nat) : Nat → List Nat
  | 0 => List.replicate r 0
  | k + 1 => (lineN q r k).set (placeN q r k) k
theorem lineN_len (q : Nat → Nat → Bool) (r : Nat) : ∀ k, (lineN q r k).length = r
  | 0 => List.length_replicate
  | k + 1 => by rw [lineN, List.length_set]; exact lineN_len q r k
theorem held_zeros {w : World} {base g n : Nat} (h : w.ownsRow base 3 1 (.slice (some ⟨g, 0, none⟩) n n) n (madeCells (Value.int .i64 0).cells (n * 1)).toList) : HeldB w g 3 (setsV (List.replicate n 0)) := by
  rw [show (.int .i64 0 : Value).cells = #[.int .i64 0] from rfl, Nat.mul_one, toList_madeCells_one] at h
  rcases h.2 with ⟨hv, h0⟩ | ⟨g', cap', cur, hv, hb, hg, h1, h2, h3, h4⟩
  · cases hv
  · simp only [Value.slice.injEq, Option.some.injEq, Addr.mk.injEq, and_true, true_and] at hv
    obtain ⟨rfl, rfl⟩ := hv
    rw [Nat.mul_one] at h3 h4
    rw [List.take_of_length_le (by rw [Array.length_toList]; omega)] at h4
    have hcur : cur = setsV (List.replicate n 0) := by
      apply Array.toList_inj.1
      rw [h4]
      simp [setsV]
    rw [← hcur]
    exact hg
theorem owns_sets {w : World} {base g : Nat} {S : List Nat} (h : HeldB w g 3 (setsV S)) (hb : base ≤ g) (hl : S.length ≤ maxLen) : w.ownsRow base 3 1 (.slice (some ⟨g, 0, none⟩) S.length S.length) S.length ((S.map fun m => ((m : Nat) : Int)).map (Value.int .i64)) := by
  refine ⟨by simp, .inr ⟨g, S.length, setsV S, rfl, hb, h, Nat.le_refl _, hl, by rw [setsV_size, Nat.mul_one], ?_⟩⟩
  rw [Nat.mul_one, List.take_of_length_le (by rw [Array.length_toList, setsV_size]; exact Nat.le_refl _)]
  simp [setsV]

/-! # the two questions -/
/-- where the places lie while rooms are counted -/
def PlSt (w : World) (D : Array Value) (S : List Nat) (wr : World) : Prop := HeldB wr w.heap.size 83 D ∧ HeldB wr (w.heap.size + 1) 3 (setsV S) ∧ Below w.heap.size w wr
theorem PlSt.below {w : World} {D : Array Value} {S : List Nat} {wr w1 : World} (h : PlSt w D S wr) (hb : Below wr.heap.size wr w1) : PlSt w D S w1 := ⟨h.1.below hb, h.2.1.below hb, below_step h.2.2 h.2.2.size hb⟩
theorem PlSt.put {w : World} {D : Array Value} {S T : List Nat} {wr : World} (h : PlSt w D S wr) (x m : Nat) (hT : S.set x m = T) : PlSt w D T (wr.setCell ⟨w.heap.size + 1, x, none⟩ (.int .i64 (m : Nat))) := by
  subst hT
  exact ⟨h.1.other (by simp) _, (h.2.1.set x _).eq (setsV_put S x m), h.2.2.setCell (p := ⟨w.heap.size + 1, x, none⟩) (by simp) _⟩

end Go.Proofs.Ytlgbefmgpmdolaa

/-
  The line of rooms, and the program's first and second orders. (Walks.)
-/
namespace Go.Proofs.Ytlgbefmgpmdolaa
open Go.RowKit

/-- where the line lies while it is laid -/
def LiSt (w : World) (gp : Nat) (P S : List Nat) (wr : World) : Prop := HeldB wr (w.heap.size + 1) 3 (setsV S) ∧ HeldB wr gp 3 (setsV P) ∧ Below w.heap.size w wr
theorem LiSt.put {w : World} {gp : Nat} {P S T : List Nat} {wr : World} (hgp : w.heap.size + 1 < gp) (h : LiSt w gp P S wr) (x m : Nat) (hT : S.set x m = T) : LiSt w gp P T (wr.setCell ⟨w.heap.size + 1, x, none⟩ (.int .i64 (m : Nat))) := by
  subst hT
  exact ⟨(h.1.set x _).eq (setsV_put S x m), h.2.1.other (by simp; omega) _, h.2.2.setCell (p := ⟨w.heap.size + 1, x, none⟩) (by simp) _⟩

/-- whole numbers of naturals -/
def intsL (S : List Nat) : List Int := S.map fun m => ((m : Nat) : Int)
theorem intsL_len (S : List Nat) : (intsL S).length = S.length := by simp [intsL]
end Go.Proofs.Ytlgbefmgpmdolaa

/-
  The permutation of an order: what it is, and the program's. (Plain mathematics, and walks.)
-/
namespace Go.Proofs.Ytlgbefmgpmdolaa
open Go.RowKit

/-- a question that puts the first numbers into a line -/
structure Lin (q : Nat → Nat → Bool) (r : Nat) : Prop where
  irr : ∀ a, a < r → q a a = false
  all : ∀ a b, a < r → b < r → a ≠ b → q a b = true ∨ q b a = true
  trans : ∀ a b c, a < r → b < r → c < r → q a b = true → q b c = true → q a c = true
theorem cnt_le {p p' : Nat → Bool} : ∀ n, (∀ x, x < n → p x = true → p' x = true) → (List.range n).countP p ≤ (List.range n).countP p'
  | 0, _ => Nat.le_refl _
  | n + 1, h => by
    have ih := cnt_le n (fun x hx => h x (by omega))
    have hn := h n (by omega)
    rw [List.range_succ, List.countP_append, List.countP_append, List.countP_singleton, List.countP_singleton]
    cases hp : p n
    · simp; omega
    · rw [hn hp]; simp; omega
theorem cnt_lt {p p' : Nat → Bool} {a : Nat} (ha2 : p' a = true) (ha1 : p a = false) : ∀ n, a < n → (∀ x, x < n → p x = true → p' x = true) → (List.range n).countP p < (List.range n).countP p'
  | 0, ha, _ => by omega
  | n + 1, ha, h => by
    have hn := h n (by omega)
    have hle := cnt_le (p := p) (p' := p') n (fun x hx => h x (by omega))
    rw [List.range_succ, List.countP_append, List.countP_append, List.countP_singleton, List.countP_singleton]
    by_cases hna : a = n
    · subst hna; rw [ha1, ha2]; simp; omega
    · have ih := cnt_lt ha2 ha1 n (by omega) (fun x hx => h x (by omega))
      cases hp : p n
      · simp; omega
      · rw [hn hp]; simp; omega
theorem Lin.mono {q : Nat → Nat → Bool} {r a b : Nat} (L : Lin q r) (ha : a < r) (hb : b < r) (h : q a b = true) : placeN q r a < placeN q r b :=
  cnt_lt (p := fun x => q x a) (p' := fun x => q x b) (a := a) h (L.irr a ha) r ha (fun x hx hxa => L.trans x a b hx ha hb hxa h)
theorem Lin.inj {q : Nat → Nat → Bool} {r a b : Nat} (L : Lin q r) (ha : a < r) (hb : b < r) (h : placeN q r a = placeN q r b) : a = b := by
  rcases Nat.decEq a b with hne | he
  · rcases L.all a b ha hb hne with h1 | h1
    · have := L.mono ha hb h1; omega
    · have := L.mono hb ha h1; omega
  · exact he
theorem Lin.lt {q : Nat → Nat → Bool} {r a : Nat} (L : Lin q r) (ha : a < r) : placeN q r a < r := placeN_lt ha (L.irr a ha)
theorem Lin.line_at {q : Nat → Nat → Bool} {r : Nat} (L : Lin q r) : ∀ k, k ≤ r → ∀ x, x < k → (lineN q r k).getD (placeN q r x) 0 = x
  | 0, _, x, hx => by omega
  | k + 1, hk, x, hx => by
    rw [lineN, getD_set _ _ _ _ (by rw [lineN_len]; exact L.lt (by omega))]
    by_cases he : placeN q r x = placeN q r k
    · rw [if_pos he]; exact (L.inj (by omega) (by omega) he).symm
    · rw [if_neg he]
      refine L.line_at k (by omega) x ?_
      rcases Nat.lt_or_ge x k with h | h
      · exact h
      · obtain rfl : x = k := by omega
        exact absurd rfl he
theorem Lin.line {q : Nat → Nat → Bool} {r x : Nat} (L : Lin q r) (hx : x < r) : (lineN q r r).getD (placeN q r x) 0 = x := L.line_at r (Nat.le_refl _) x hx
/-- where the permutation lies while it is made -/
def PeSt (w : World) (g1 g2 : Nat) (P S : List Nat) (wr : World) : Prop := HeldB wr g1 3 (setsV P) ∧ HeldB wr g2 3 (setsV S) ∧ Below w.heap.size w wr
theorem PeSt.put {w : World} {g1 g2 : Nat} {P S T : List Nat} {wr : World} (h1 : g1 ≠ g2) (h2 : w.heap.size ≤ g2) (h : PeSt w g1 g2 P S wr) (x m : Nat) (hT : S.set x m = T) : PeSt w g1 g2 P T (wr.setCell ⟨g2, x, none⟩ (.int .i64 (m : Nat))) := by
  subst hT
  exact ⟨h.1.other h1 _, (h.2.1.set x _).eq (setsV_put S x m), h.2.2.setCell (p := ⟨g2, x, none⟩) h2 _⟩

end Go.Proofs.Ytlgbefmgpmdolaa

/-
  Merged texts: OrdV OrdA OrdB OrdD.
-/
/-
  The model's answers about two rooms: left, above, the kind. (Walks.)
-/
namespace Go.Proofs.Ytlgbefmgpmdolaa
open Go.RowKit

end Go.Proofs.Ytlgbefmgpmdolaa

/-
  The model's lines of rooms. (Walks.)
-/
namespace Go.Proofs.Ytlgbefmgpmdolaa
open Go.RowKit

/-- where the model's line lies -/
def SoSt (w : World) (g5 g6 gp : Nat) (S T L : List Nat) (wr : World) : Prop := HeldB wr g5 3 (setsV S) ∧ HeldB wr g6 3 (setsV T) ∧ HeldB wr gp 3 (setsV L) ∧ Below w.heap.size w wr
theorem SoSt.put {w : World} {g5 g6 gp : Nat} {S T L M : List Nat} {wr : World} (h1 : g5 ≠ gp) (h2 : g6 ≠ gp) (h3 : w.heap.size ≤ gp) (h : SoSt w g5 g6 gp S T L wr) (x m : Nat) (hM : L.set x m = M) : SoSt w g5 g6 gp S T M (wr.setCell ⟨gp, x, none⟩ (.int .i64 (m : Nat))) := by
  subst hM
  exact ⟨h.1.other h1 _, h.2.1.other h2 _, (h.2.2.1.set x _).eq (setsV_put L x m), h.2.2.2.setCell (p := ⟨gp, x, none⟩) h3 _⟩

end Go.Proofs.Ytlgbefmgpmdolaa

/-
  The model's first and second orders. (Walks.)
-/
namespace Go.Proofs.Ytlgbefmgpmdolaa
open Go.RowKit

theorem nums_none (w : World) : (w.alloc (.cells #[] 3)).ownsRow w.heap.size 3 1 (.slice (some ⟨w.heap.size, 0, none⟩) 0 0) 0 (([] : List Int).map (Value.int .i64)) := World.ownsRow_made w #[] 0 (Nat.le_refl _) (Nat.zero_le _) rfl
end Go.Proofs.Ytlgbefmgpmdolaa

/-
  The permutation of an order: the model's. (Plain mathematics, and walks.)
-/
namespace Go.Proofs.Ytlgbefmgpmdolaa
open Go.RowKit

end Go.Proofs.Ytlgbefmgpmdolaa
