/-
  Merged texts: Cnt Inner Gather PtsN MeetI.
-/
import Derived.Test.YtpgcpmfemcfoaaaPtsQ
import Derived.Test.YtpgcpmfemcfoaaaRowQ
import Derived.Test.YtpgcpmfemcfoaaaSpecWXQ
import Derived.Test.YtpgcpmfemcfoaaaLongQ
import Derived.Test.YtpgcpmfemcfoaaaListQ
import Derived.Test.YtpgcpmfemcfoaaaOutlQ
import Derived.Test.YtpgcpmfemcfoaaaTightMQ
import Derived.Deep.MidRow
import Derived.OrdersHeld
import Derived.BigQuiet
import Derived.StillTailTactics
import Derived.Maps.RangeWalk
import Derived.Maps.OwnOps
import Derived.Maps.Views
import Derived.DeepKeys4
import Derived.WideKeyEntry
import Derived.Laws.MakeOwn

/-
  A map that counts points. (No function of the program is named.)
-/
namespace Go.Proofs.Ytpgcpmfemcfoaaa
open Go.RowKit
open Go.Maps (Keyed)
open Go.WideElems (Fit rd rg pl)

set_option maxRecDepth 100000 in
theorem point_law : WideMaps.KeyLaw Try.prog 147 := deep_law_laid (m := 3) (by kernel_rfl) (by decide) (of_decide_eq_true (by kernel_rfl)) (by kernel_rfl) (by kernel_rfl)
set_option maxRecDepth 100000 in
theorem point_keyed : Keyed Try.prog 147 := Keyed.of_law point_law

/-- the key of a point -/
def ptL (x : Nat × Nat) : Lit := .string (keyBytes [.int .i64 (x.1 : Nat), .int .i64 (x.2 : Nat)])
set_option maxRecDepth 100000 in
theorem keyOf_pt_all : (ptsAll.map fun x => keyOf Try.prog 147 (.agg (ptC x))) = ptsAll.map fun x => some (ptL x) := by kernel_rfl
set_option maxRecDepth 100000 in
theorem keyOf_pt {x : Nat × Nat} (hx : x ∈ ptsAll) : keyOf Try.prog 147 (.agg (ptC x)) = some (ptL x) := List.map_inj_left.1 keyOf_pt_all x hx
set_option maxRecDepth 100000 in
theorem ptC_inj {x y : Nat × Nat} (h : (Value.agg (ptC x)) = .agg (ptC y)) : x = y := by
  obtain ⟨a, b⟩ := x
  obtain ⟨c, d⟩ := y
  unfold ptC at h
  simp only [Value.agg.injEq, Array.mk.injEq, List.cons.injEq, Value.int.injEq, true_and, and_true] at h
  rw [Prod.mk.injEq]
  omega
set_option maxRecDepth 100000 in
theorem ptL_inj {x y : Nat × Nat} (hx : x ∈ ptsAll) (hy : y ∈ ptsAll) (h : ptL x = ptL y) : x = y :=
  ptC_inj (point_keyed.inj (keyOf_pt hx) (h ▸ keyOf_pt hy))
set_option maxRecDepth 100000 in
theorem ptL_key {x : Nat × Nat} (hx : x ∈ ptsAll) : WideAt.IsKeyLit (ptL x) := point_keyed.key (keyOf_pt hx)

/-- what a map says of the points of a list: how often each is in it -/
def Counts (D : DataW Unit) (M : List (Nat × Nat)) : Prop :=
  (∀ x ∈ ptsAll, D.atKey (ptL x) (.lit (.int .i64 0)) = .lit (.int .i64 (M.count x : Nat))) ∧ ∀ kl, Maps.has D kl = true ↔ ∃ x ∈ M, kl = ptL x
def CntMap (w : World) (b : Nat) (M : List (Nat × Nat)) : Prop :=
  (∀ x ∈ M, x ∈ ptsAll) ∧ ∃ D, w.ownsMap (H := Unit) Try.prog 147 (plainElem Try.prog 3) b M.length D ∧ Counts D M

theorem counts_nil : Counts (.map []) [] := ⟨fun x _ => by simp [DataW.atKey], fun kl => by simp [Maps.has]⟩
set_option maxRecDepth 100000 in
theorem CntMap.made (w : World) : CntMap (w.alloc (.map #[] 0)) w.heap.size [] :=
  ⟨fun _ h => (by cases h), _, World.ownsMap_made w _ _ _, counts_nil⟩
set_option maxRecDepth 100000 in
theorem CntMap.kept {w w' : World} {b : Nat} {M : List (Nat × Nat)} {row : Option Nat} (h : CntMap w b M) (hg : w.grownBy w' row) (hne : some b ≠ row) : CntMap w' b M := by
  obtain ⟨h1, D, h2, h3⟩ := h
  exact ⟨h1, D, h2.kept hg hne, h3⟩
set_option maxRecDepth 100000 in
theorem CntMap.below {w w' : World} {b : Nat} {M : List (Nat × Nat)} (h : CntMap w b M) (hb : Below w.heap.size w w') : CntMap w' b M :=
  h.kept (grownBy_of_below hb none) (by simp)
set_option maxRecDepth 100000 in
theorem CntMap.lt {w : World} {b : Nat} {M : List (Nat × Nat)} (h : CntMap w b M) : b < w.heap.size := by
  obtain ⟨_, D, h2, _⟩ := h
  exact h2.lt

set_option maxRecDepth 100000 in
theorem Counts.put {D : DataW Unit} {M : List (Nat × Nat)} (h : Counts D M) (hm : Maps.IsMap D) {x : Nat × Nat} (hx : x ∈ ptsAll) : Counts (D.put (ptL x) (.lit (.int .i64 ((M.count x + 1 : Nat) : Int)))) (M ++ [x]) := by
  refine ⟨fun y hy => ?_, fun kl => ?_⟩
  · by_cases he : y = x
    · subst he
      rw [Maps.atKey_put_same hm (ptL_key hx), List.count_append]
      simp
    · rw [Maps.atKey_put_other (fun e => he (ptL_inj hy hx e)), h.1 y hy, List.count_append]
      have : ¬ x = y := fun e => he e.symm
      simp [this]
  · by_cases he : kl = ptL x
    · subst he
      rw [Maps.has_put_same hm (ptL_key hx)]
      simp only [true_iff]
      exact ⟨x, by simp, rfl⟩
    · rw [Maps.has_put_other he, h.2 kl]
      constructor
      · rintro ⟨y, hy, rfl⟩; exact ⟨y, List.mem_append_left _ hy, rfl⟩
      · rintro ⟨y, hy, rfl⟩
        rw [List.mem_append, List.mem_singleton] at hy
        rcases hy with hy | rfl
        · exact ⟨y, hy, rfl⟩
        · exact absurd rfl he

end Go.Proofs.Ytpgcpmfemcfoaaa

/-
  The points that a wall goes through, and those where it ends: the program's answers. (Walks.)
-/
namespace Go.Proofs.Ytpgcpmfemcfoaaa
open Go.RowKit

end Go.Proofs.Ytpgcpmfemcfoaaa

/-
  How many walls have each point: a map is filled. (Walks.)
-/
namespace Go.Proofs.Ytpgcpmfemcfoaaa
open Go.RowKit

end Go.Proofs.Ytpgcpmfemcfoaaa

/-
  Crosses, tees and ends of a plan: what the program counts is what the model counts. (Mathematics.)
-/
namespace Go.Proofs.Ytpgcpmfemcfoaaa
open Go.RowKit

theorem PlanP.rectG {p : List ByteArray} (hp : PlanP p) : RectG p.length (wideB p) (gridG p) := hp.rect.of_same (fun i j i' j' a b c d => by rw [hp.mark i j a b, hp.mark i' j' c d])

end Go.Proofs.Ytpgcpmfemcfoaaa

/-
  Crosses, tees and ends: the program's answers. (Walks.)
-/
namespace Go.Proofs.Ytpgcpmfemcfoaaa
open Go.RowKit

/-- the cells of meetings -/
def mtC (a b c : Nat) : Array Value := #[.int .i64 (a : Nat), .int .i64 (b : Nat), .int .i64 (c : Nat)]
/-- where meetings stand while they are counted -/
def MtSt (w : World) (C : Array Value) (ro : Option Addr) (L : List Wl) (a b c : Nat) (wr : World) : Prop :=
  HeldB wr w.heap.size 47 C ∧ HeldB wr (w.heap.size + 1) 103 (mtC 0 0 0) ∧ HeldB wr (w.heap.size + 2) 103 (mtC a b c) ∧ CellsAt wr ro (wlsC L) ∧ Below w.heap.size w wr ∧ w.heap.size + 3 ≤ wr.heap.size
theorem MtSt.below {w : World} {C : Array Value} {ro : Option Addr} {L : List Wl} {a b c : Nat} {wr w' : World} (h : MtSt w C ro L a b c wr) (hb : Below wr.heap.size wr w') : MtSt w C ro L a b c w' :=
  ⟨h.1.below hb, h.2.1.below hb, h.2.2.1.below hb, h.2.2.2.1.below hb, below_step h.2.2.2.2.1 h.2.2.2.2.1.size hb, Nat.le_trans h.2.2.2.2.2 hb.size⟩
theorem MtSt.grown {w : World} {C : Array Value} {ro : Option Addr} {L : List Wl} {a b c : Nat} {wr w' : World} (h : MtSt w C ro L a b c wr) {k : Nat} (hg : wr.grownBy w' (some k)) (hk : w.heap.size + 3 ≤ k) (hro : ∀ x, ro = some x → x.block ≠ k) : MtSt w C ro L a b c w' :=
  ⟨h.1.kept hg (by simp; omega), h.2.1.kept hg (by simp; omega), h.2.2.1.kept hg (by simp; omega), h.2.2.2.1.grown hg (fun x hx => by have := hro x hx; simpa using this), h.2.2.2.2.1.trans (below_of_grownBy hg h.2.2.2.2.1.size (fun j hj => by simp at hj; omega)), Nat.le_trans h.2.2.2.2.2 hg.size⟩
theorem MtSt.set {w : World} {C : Array Value} {ro : Option Addr} {L : List Wl} {a b c a' b' c' : Nat} {wr : World} (h : MtSt w C ro L a b c wr) (k : Nat) (v : Value) (hro : ∀ x, ro = some x → w.heap.size + 3 ≤ x.block) (he : (mtC a b c).setIfInBounds k v = mtC a' b' c') :
    MtSt w C ro L a' b' c' (wr.setCell ⟨w.heap.size + 2, k, none⟩ v) :=
  ⟨h.1.other (by simp) _, h.2.1.other (by simp) _, (h.2.2.1.set k v).eq he, h.2.2.2.1.setOther (fun x hx => by have := hro x hx; simp; omega) _, h.2.2.2.2.1.setCell (by simp) _, by simp; exact h.2.2.2.2.2⟩

end Go.Proofs.Ytpgcpmfemcfoaaa
