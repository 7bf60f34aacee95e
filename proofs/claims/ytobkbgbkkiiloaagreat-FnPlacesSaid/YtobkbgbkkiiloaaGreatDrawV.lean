
/-
  Merged texts: DrawH DrawV.
-/
import Derived.Test.YtobkbgbkkiiloaaGreatPick
import Derived.Test.YtobkbgbkkiiloaaGreatNests

/-
  The sheets that are drawn. (Walks.)
-/
namespace Go.Proofs.YtobkbgbkkiiloaaGreat
open Go.RowKit

theorem below_shpicks {w w1 w2 : World} {B : Nat} (h : Below w.heap.size w w1) (hB : w.heap.size ≤ B) (hg : w1.grownBy w2 (some B)) : Below w.heap.size w w2 :=
  h.trans (below_of_grownBy hg h.size (fun k hk => by cases hk; exact hB))
end Go.Proofs.YtobkbgbkkiiloaaGreat

/-
  The kinds of pieces that are drawn. (Walks.)
-/
namespace Go.Proofs.YtobkbgbkkiiloaaGreat
open Go.RowKit

theorem rd_code {ao : Option Addr} {cap : Nat} {c : List UInt8} {N B : Nat} {w : World} (h : RdC ao cap c N B w) : c.length = 0 ∨ ∀ a, ao = some a → a.block < w.heap.size := by
  obtain ⟨p, h1, h2, h3, h4, h5⟩ := h
  rcases Nat.eq_zero_or_pos c.length with h0 | h0
  · exact .inl h0
  · right
    intro a ha
    obtain ⟨b, off, he, hc⟩ := h4.byte 0 h0
    rw [ha] at he
    cases he
    exact World.block_lt_of_cell? _ _ hc
/-- a reader stays where something else is written -/
theorem rd_kept {ao : Option Addr} {cap : Nat} {c : List UInt8} {N B : Nat} {w w' : World} {row : Option Nat} (h : RdC ao cap c N B w) (hg : w.grownBy w' row) (hB : some B ≠ row) (hc : c.length = 0 ∨ ∀ a, ao = some a → some a.block ≠ row) : RdC ao cap c N B w' := by
  obtain ⟨p, h1, h2, h3, h4, h5⟩ := h
  refine ⟨p, h1, h2, h3.kept hg hB, ?_, h5⟩
  rcases hc with h0 | h0
  · rw [List.length_eq_zero_iff.1 h0]; exact CellsAt.nil _ _
  · exact h4.grown hg h0
/-- three lists in the making, each apart from the others -/
structure Three (w : World) (base na nb nc : Nat) (ao bo co : Option Addr) (ka kb kc : Nat) (la lb lc : List Int) : Prop where
  a : w.ownsRow base 3 1 (.slice ao na ka) na (la.map (Value.int .i64))
  b : w.ownsRow base 3 1 (.slice bo nb kb) nb (lb.map (Value.int .i64))
  c : w.ownsRow base 3 1 (.slice co nc kc) nc (lc.map (Value.int .i64))
  ab : Apart ao bo
  ac : Apart ao co
  bc : Apart bo co
theorem ownBlock_base {w : World} {base : Nat} {e : TypeId} {size : Nat} {ao : Option Addr} {m cap n g : Nat} {xs : List Value} (h : w.ownsRow base e size (.slice ao m cap) n xs) (hg : g < base) : some g ≠ Value.ownBlock (.slice ao m cap) := by
  cases ao with
  | none => simp [Value.ownBlock]
  | some a =>
    have := (owns_lt h a rfl).1
    simp only [Value.ownBlock, ne_eq, Option.some.injEq]
    omega
theorem three_len {w : World} {base k m : Nat} {ao : Option Addr} {l : List Int} (h : w.ownsRow base 3 1 (.slice ao k m) k (l.map (Value.int .i64))) : l.length = k := by
  have := ownsRow_len h; rwa [List.length_map] at this
theorem three_made (w : World) : Three (((w.alloc (.cells #[] 3)).alloc (.cells #[] 3)).alloc (.cells #[] 3)) w.heap.size 0 0 0 (some ⟨w.heap.size, 0, none⟩) (some ⟨w.heap.size + 1, 0, none⟩) (some ⟨w.heap.size + 1 + 1, 0, none⟩) 0 0 0 [] [] [] := by
  have h1 : (w.alloc (.cells #[] 3)).ownsRow w.heap.size 3 1 (.slice (some ⟨w.heap.size, 0, none⟩) 0 0) 0 [] := World.ownsRow_made w #[] 0 (Nat.le_refl _) (Nat.zero_le _) rfl
  have h2 : ((w.alloc (.cells #[] 3)).alloc (.cells #[] 3)).ownsRow w.heap.size 3 1 (.slice (some ⟨(w.alloc (.cells #[] 3)).heap.size, 0, none⟩) 0 0) 0 [] := ownsRow_base (World.ownsRow_made (w.alloc (.cells #[] 3)) #[] 0 (Nat.le_refl _) (Nat.zero_le _) rfl) (by simp)
  have h3 : (((w.alloc (.cells #[] 3)).alloc (.cells #[] 3)).alloc (.cells #[] 3)).ownsRow w.heap.size 3 1 (.slice (some ⟨((w.alloc (.cells #[] 3)).alloc (.cells #[] 3)).heap.size, 0, none⟩) 0 0) 0 [] := ownsRow_base (World.ownsRow_made ((w.alloc (.cells #[] 3)).alloc (.cells #[] 3)) #[] 0 (Nat.le_refl _) (Nat.zero_le _) rfl) (by simp; omega)
  rw [World.size_alloc] at h2
  rw [World.size_alloc, World.size_alloc] at h3
  exact ⟨ownsRow_below (ownsRow_below h1 (below_alloc _ _)) (below_alloc _ _), ownsRow_below h2 (below_alloc _ _), h3, fun a b ha hb => by cases ha; cases hb; simp, fun a b ha hb => by cases ha; cases hb; simp; omega, fun a b ha hb => by cases ha; cases hb; simp⟩
theorem three_kept {w w' : World} {base na nb nc g : Nat} {ao bo co : Option Addr} {ka kb kc : Nat} {la lb lc : List Int} (h : Three w base na nb nc ao bo co ka kb kc la lb lc) (hg : w.grownBy w' (some g)) (hlt : g < base) : Three w' base na nb nc ao bo co ka kb kc la lb lc :=
  ⟨h.a.kept hg (.inr (ownBlock_base h.a hlt).symm), h.b.kept hg (.inr (ownBlock_base h.b hlt).symm), h.c.kept hg (.inr (ownBlock_base h.c hlt).symm), h.ab, h.ac, h.bc⟩
theorem code_ne {cc : List UInt8} {cao ao : Option Addr} {n : Nat} {w : World} {e : TypeId} {size m cap k : Nat} {xs : List Value} (h : cc.length = 0 ∨ ∀ a, cao = some a → a.block < n) (ho : w.ownsRow n e size (.slice ao m cap) k xs) : cc.length = 0 ∨ ∀ a, cao = some a → some a.block ≠ Value.ownBlock (.slice ao m cap) :=
  h.imp id (fun h a ha => ownBlock_base ho (h a ha))
theorem Three.push_a {w w' : World} {o : Obj} {base na nb nc : Nat} {ao bo co ao' : Option Addr} {ka kb kc ka' : Nat} {la lb lc : List Int} (h : Three w base na nb nc ao bo co ka kb kc la lb lc) (v : Int)
    (hown : w'.ownsRow base 3 1 (.slice ao' (na + 1) ka') (na + 1) (la.map (Value.int .i64) ++ [.int .i64 v])) (hg : (w.alloc o).grownBy w' (Value.ownBlock (.slice ao na ka))) (hn : NewOr (w.alloc o) ao ao') :
    Three w' base (na + 1) nb nc ao' bo co ka' kb kc (la ++ [v]) lb lc :=
  ⟨by rw [List.map_append]; exact hown, owns_push_other h.b hg h.ab.symm, owns_push_other h.c hg h.ac.symm, apart_push h.ab hn (fun b hb => (owns_lt h.b b hb).2), apart_push h.ac hn (fun b hb => (owns_lt h.c b hb).2), h.bc⟩
theorem Three.push_b {w w' : World} {o : Obj} {base na nb nc : Nat} {ao bo co bo' : Option Addr} {ka kb kc kb' : Nat} {la lb lc : List Int} (h : Three w base na nb nc ao bo co ka kb kc la lb lc) (v : Int)
    (hown : w'.ownsRow base 3 1 (.slice bo' (nb + 1) kb') (nb + 1) (lb.map (Value.int .i64) ++ [.int .i64 v])) (hg : (w.alloc o).grownBy w' (Value.ownBlock (.slice bo nb kb))) (hn : NewOr (w.alloc o) bo bo') :
    Three w' base na (nb + 1) nc ao bo' co ka kb' kc la (lb ++ [v]) lc :=
  ⟨owns_push_other h.a hg h.ab, by rw [List.map_append]; exact hown, owns_push_other h.c hg h.bc.symm, (apart_push h.ab.symm hn (fun b hb => (owns_lt h.a b hb).2)).symm, h.ac, apart_push h.bc hn (fun b hb => (owns_lt h.c b hb).2)⟩
theorem Three.push_c {w w' : World} {o : Obj} {base na nb nc : Nat} {ao bo co co' : Option Addr} {ka kb kc kc' : Nat} {la lb lc : List Int} (h : Three w base na nb nc ao bo co ka kb kc la lb lc) (v : Int)
    (hown : w'.ownsRow base 3 1 (.slice co' (nc + 1) kc') (nc + 1) (lc.map (Value.int .i64) ++ [.int .i64 v])) (hg : (w.alloc o).grownBy w' (Value.ownBlock (.slice co nc kc))) (hn : NewOr (w.alloc o) co co') :
    Three w' base na nb (nc + 1) ao bo co' ka kb kc' la lb (lc ++ [v]) :=
  ⟨owns_push_other h.a hg h.ac, owns_push_other h.b hg h.bc, by rw [List.map_append]; exact hown, h.ab, (apart_push h.ac.symm hn (fun b hb => (owns_lt h.a b hb).2)).symm, (apart_push h.bc.symm hn (fun b hb => (owns_lt h.b b hb).2)).symm⟩

end Go.Proofs.YtobkbgbkkiiloaaGreat
