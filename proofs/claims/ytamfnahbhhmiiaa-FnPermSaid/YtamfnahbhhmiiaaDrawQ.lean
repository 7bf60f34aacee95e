
/-
  Merged texts: DrawQ DrawR.
-/
import Derived.Test.YtamfnahbhhmiiaaPick
import Derived.Test.YtamfnahbhhmiiaaNests
import Derived.Test.YtamfnahbhhmiiaaDraw
import Derived.Test.YtamfnahbhhmiiaaPoint

/-
  Merged texts: DrawV DrawQ.
-/
/-
  Merged texts: DrawH DrawV.
-/
/-
  The sheets that are drawn. (Walks.)
-/
namespace Go.Proofs.Ytamfnahbhhmiiaa
open Go.RowKit

theorem below_shpicks {w w1 w2 : World} {B : Nat} (h : Below w.heap.size w w1) (hB : w.heap.size ≤ B) (hg : w1.grownBy w2 (some B)) : Below w.heap.size w w2 :=
  h.trans (below_of_grownBy hg h.size (fun k hk => by cases hk; exact hB))
end Go.Proofs.Ytamfnahbhhmiiaa

/-
  The kinds of pieces that are drawn. (Walks.)
-/
namespace Go.Proofs.Ytamfnahbhhmiiaa
open Go.RowKit

theorem rd_code {ao : Option Addr} {cap : Nat} {c : List UInt8} {N B : Nat} {w : World} (h : RdC ao cap c N B w) : c.length = 0 ∨ ∀ a, ao = some a → a.block < w.heap.size := by
  obtain ⟨p, h1, h2, h3, h4, h5⟩ := h
  rcases Nat.eq_zero_or_pos c.length with h0 | h0
  · exact .inl h0
  · right
    intro a ha
    obtain ⟨b, off, he, hc⟩ := h4.byte 0 h0
    rw [ha] at he
    cases he
    exact World.block_lt_of_cell? _ _ hc
/-- a reader stays where something else is written -/
theorem rd_kept {ao : Option Addr} {cap : Nat} {c : List UInt8} {N B : Nat} {w w' : World} {row : Option Nat} (h : RdC ao cap c N B w) (hg : w.grownBy w' row) (hB : some B ≠ row) (hc : c.length = 0 ∨ ∀ a, ao = some a → some a.block ≠ row) : RdC ao cap c N B w' := by
  obtain ⟨p, h1, h2, h3, h4, h5⟩ := h
  refine ⟨p, h1, h2, h3.kept hg hB, ?_, h5⟩
  rcases hc with h0 | h0
  · rw [List.length_eq_zero_iff.1 h0]; exact CellsAt.nil _ _
  · exact h4.grown hg h0
/-- three lists in the making, each apart from the others -/
structure Three (w : World) (base na nb nc : Nat) (ao bo co : Option Addr) (ka kb kc : Nat) (la lb lc : List Int) : Prop where
  a : w.ownsRow base 3 1 (.slice ao na ka) na (la.map (Value.int .i64))
  b : w.ownsRow base 3 1 (.slice bo nb kb) nb (lb.map (Value.int .i64))
  c : w.ownsRow base 3 1 (.slice co nc kc) nc (lc.map (Value.int .i64))
  ab : Apart ao bo
  ac : Apart ao co
  bc : Apart bo co
theorem ownBlock_base {w : World} {base : Nat} {e : TypeId} {size : Nat} {ao : Option Addr} {m cap n g : Nat} {xs : List Value} (h : w.ownsRow base e size (.slice ao m cap) n xs) (hg : g < base) : some g ≠ Value.ownBlock (.slice ao m cap) := by
  cases ao with
  | none => simp [Value.ownBlock]
  | some a =>
    have := (owns_lt h a rfl).1
    simp only [Value.ownBlock, ne_eq, Option.some.injEq]
    omega
theorem three_len {w : World} {base k m : Nat} {ao : Option Addr} {l : List Int} (h : w.ownsRow base 3 1 (.slice ao k m) k (l.map (Value.int .i64))) : l.length = k := by
  have := ownsRow_len h; rwa [List.length_map] at this
theorem three_made (w : World) : Three (((w.alloc (.cells #[] 3)).alloc (.cells #[] 3)).alloc (.cells #[] 3)) w.heap.size 0 0 0 (some ⟨w.heap.size, 0, none⟩) (some ⟨w.heap.size + 1, 0, none⟩) (some ⟨w.heap.size + 1 + 1, 0, none⟩) 0 0 0 [] [] [] := by
  have h1 : (w.alloc (.cells #[] 3)).ownsRow w.heap.size 3 1 (.slice (some ⟨w.heap.size, 0, none⟩) 0 0) 0 [] := World.ownsRow_made w #[] 0 (Nat.le_refl _) (Nat.zero_le _) rfl
  have h2 : ((w.alloc (.cells #[] 3)).alloc (.cells #[] 3)).ownsRow w.heap.size 3 1 (.slice (some ⟨(w.alloc (.cells #[] 3)).heap.size, 0, none⟩) 0 0) 0 [] := ownsRow_base (World.ownsRow_made (w.alloc (.cells #[] 3)) #[] 0 (Nat.le_refl _) (Nat.zero_le _) rfl) (by simp)
  have h3 : (((w.alloc (.cells #[] 3)).alloc (.cells #[] 3)).alloc (.cells #[] 3)).ownsRow w.heap.size 3 1 (.slice (some ⟨((w.alloc (.cells #[] 3)).alloc (.cells #[] 3)).heap.size, 0, none⟩) 0 0) 0 [] := ownsRow_base (World.ownsRow_made ((w.alloc (.cells #[] 3)).alloc (.cells #[] 3)) #[] 0 (Nat.le_refl _) (Nat.zero_le _) rfl) (by simp; omega)
  rw [World.size_alloc] at h2
  rw [World.size_alloc, World.size_alloc] at h3
  exact ⟨ownsRow_below (ownsRow_below h1 (below_alloc _ _)) (below_alloc _ _), ownsRow_below h2 (below_alloc _ _), h3, fun a b ha hb => by cases ha; cases hb; simp, fun a b ha hb => by cases ha; cases hb; simp; omega, fun a b ha hb => by cases ha; cases hb; simp⟩
theorem three_kept {w w' : World} {base na nb nc g : Nat} {ao bo co : Option Addr} {ka kb kc : Nat} {la lb lc : List Int} (h : Three w base na nb nc ao bo co ka kb kc la lb lc) (hg : w.grownBy w' (some g)) (hlt : g < base) : Three w' base na nb nc ao bo co ka kb kc la lb lc :=
  ⟨h.a.kept hg (.inr (ownBlock_base h.a hlt).symm), h.b.kept hg (.inr (ownBlock_base h.b hlt).symm), h.c.kept hg (.inr (ownBlock_base h.c hlt).symm), h.ab, h.ac, h.bc⟩
theorem code_ne {cc : List UInt8} {cao ao : Option Addr} {n : Nat} {w : World} {e : TypeId} {size m cap k : Nat} {xs : List Value} (h : cc.length = 0 ∨ ∀ a, cao = some a → a.block < n) (ho : w.ownsRow n e size (.slice ao m cap) k xs) : cc.length = 0 ∨ ∀ a, cao = some a → some a.block ≠ Value.ownBlock (.slice ao m cap) :=
  h.imp id (fun h a ha => ownBlock_base ho (h a ha))
theorem Three.push_a {w w' : World} {o : Obj} {base na nb nc : Nat} {ao bo co ao' : Option Addr} {ka kb kc ka' : Nat} {la lb lc : List Int} (h : Three w base na nb nc ao bo co ka kb kc la lb lc) (v : Int)
    (hown : w'.ownsRow base 3 1 (.slice ao' (na + 1) ka') (na + 1) (la.map (Value.int .i64) ++ [.int .i64 v])) (hg : (w.alloc o).grownBy w' (Value.ownBlock (.slice ao na ka))) (hn : NewOr (w.alloc o) ao ao') :
    Three w' base (na + 1) nb nc ao' bo co ka' kb kc (la ++ [v]) lb lc :=
  ⟨by rw [List.map_append]; exact hown, owns_push_other h.b hg h.ab.symm, owns_push_other h.c hg h.ac.symm, apart_push h.ab hn (fun b hb => (owns_lt h.b b hb).2), apart_push h.ac hn (fun b hb => (owns_lt h.c b hb).2), h.bc⟩
theorem Three.push_b {w w' : World} {o : Obj} {base na nb nc : Nat} {ao bo co bo' : Option Addr} {ka kb kc kb' : Nat} {la lb lc : List Int} (h : Three w base na nb nc ao bo co ka kb kc la lb lc) (v : Int)
    (hown : w'.ownsRow base 3 1 (.slice bo' (nb + 1) kb') (nb + 1) (lb.map (Value.int .i64) ++ [.int .i64 v])) (hg : (w.alloc o).grownBy w' (Value.ownBlock (.slice bo nb kb))) (hn : NewOr (w.alloc o) bo bo') :
    Three w' base na (nb + 1) nc ao bo' co ka kb' kc la (lb ++ [v]) lc :=
  ⟨owns_push_other h.a hg h.ab, by rw [List.map_append]; exact hown, owns_push_other h.c hg h.bc.symm, (apart_push h.ab.symm hn (fun b hb => (owns_lt h.a b hb).2)).symm, h.ac, apart_push h.bc hn (fun b hb => (owns_lt h.c b hb).2)⟩
theorem Three.push_c {w w' : World} {o : Obj} {base na nb nc : Nat} {ao bo co co' : Option Addr} {ka kb kc kc' : Nat} {la lb lc : List Int} (h : Three w base na nb nc ao bo co ka kb kc la lb lc) (v : Int)
    (hown : w'.ownsRow base 3 1 (.slice co' (nc + 1) kc') (nc + 1) (lc.map (Value.int .i64) ++ [.int .i64 v])) (hg : (w.alloc o).grownBy w' (Value.ownBlock (.slice co nc kc))) (hn : NewOr (w.alloc o) co co') :
    Three w' base na nb (nc + 1) ao bo co' ka kb kc' la lb (lc ++ [v]) :=
  ⟨owns_push_other h.a hg h.ac, owns_push_other h.b hg h.bc, by rw [List.map_append]; exact hown, h.ab, (apart_push h.ac.symm hn (fun b hb => (owns_lt h.a b hb).2)).symm, (apart_push h.bc.symm hn (fun b hb => (owns_lt h.b b hb).2)).symm⟩

end Go.Proofs.Ytamfnahbhhmiiaa

/-
  Merged texts: DrawO DrawQ.
-/
/-
  Draws of a mostly plain plan and rooms, for the laws of orders. (Walks.)
-/
namespace Go.Proofs.Ytamfnahbhhmiiaa
open Go.RowKit

set_option maxRecDepth 100000 in
set_option maxHeartbeats 2000000 in
theorem l91Plain_any (N B rows cols : Nat) (w : World) (hN : N ≤ 20000) (hn : rows ≤ 7) (hm : cols ≤ 7) (h : RdAt N B w) :
    Calls Try.prog 40 #[.pointer (some ⟨B, 0, none⟩), .int .i64 (rows : Nat), .int .i64 (cols : Nat)] w
      fun e w' => ∃ ro rc l, Smp l ∧ e = .returned (.slice ro l.length rc) ∧ ListAt B w' ro l ∧ RdAt (N + 240) B w' ∧ w.grownBy w' (some B) := by
  go_enter Try.func40, Try.ntmps40
  go_wp2_with (go_at_call 73; refine (l91Some_any N B rows cols _ (by omega) hn hm h).mono ?_; rintro e w1 ⟨ro, rc, l, hsm, rfl, hla, hr1, hg1⟩)
  clear h
  go_loopw [7, 8] (fun v7 v8 wr => ∃ t : Nat, t ≤ 3 ∧ v8 = .int .i64 t ∧ ∃ (ro : Option Addr) (rc : Nat) (l : List ByteArray), v7 = .slice ro l.length rc ∧ Hid (Smp l) ∧ Hid (ListAt B wr ro l) ∧ Hid (RdAt (N + 60 + 60 * t) B wr) ∧ Hid (w.grownBy wr (some B))) (fun _ v _ => 3 - (intOf v).toNat)
  case atStart => exact ⟨0, Nat.zero_le _, rfl, ro, rc, l, rfl, Lib.hid hsm, Lib.hid hla, Lib.hid hr1, Lib.hid hg1⟩
  case round =>
    clear hsm hla hr1 hg1
    obtain ⟨t, ht, rfl, ro, rc, l, rfl, HS, HL, HR, HG⟩ := hrel
    have fin : ∀ w2 : World, Below wr.heap.size wr w2 → ListAt B w2 ro l ∧ RdAt (N + 240) B w2 ∧ w.grownBy w2 (some B) := fun w2 hb => ⟨HL.out.below hb, (HR.out.below hb).mono (by omega), grownBy_b HG.out hb⟩
    have FIN := Lib.hid fin; clear fin
    by_cases ht3 : t < 3
    · have hd : decide ((t : Int) < 3) = true := by rw [decide_eq_true_eq]; omega
      have HP := Lib.hid (fun w hc => specWallPlain_any ro rc l w HS.out.small.1 HS.out.small.2 hc)
      cases hx : (planB l && decide (meetN l 4 = 0))
      · rw [hx] at HP
        go_wp2_with (first
          | (go_at_call 66; refine (HP.out _ HL.out.1).mono ?_; rintro e w2 ⟨rfl, hb2⟩; have HR2 := Lib.hid (HR.out.below hb2); have HG2 := Lib.hid (grownBy_b HG.out hb2))
          | (go_at_call 73; refine (l91Some_any (N + 60 + 60 * t) B rows cols _ (by omega) hn hm HR2.out).mono ?_; rintro e w3 ⟨ro3, rc3, l3, hsm3, rfl, hla3, hr3, hg3⟩; have HS3 := Lib.hid hsm3; have HL3 := Lib.hid hla3; have HR3 := Lib.hid (hr3.mono (M := N + 60 + 60 * (t + 1)) (by omega)); have HG3 := Lib.hid (grownBy_trans HG2.out hg3); clear hsm3 hla3 hr3 hg3))
        go_roundw
        case rel => exact ⟨t + 1, by omega, by go_num, ro3, rc3, l3, rfl, HS3, HL3, HR3, HG3⟩
        case measure => simp [intOf]; omega
      · rw [hx] at HP
        go_wp2_with (go_at_call 66; refine (HP.out _ HL.out.1).mono ?_; rintro e w2 ⟨rfl, hb2⟩)
        have hf := FIN.out w2 hb2
        go_ret
        exact ⟨ro, rc, l, HS.out, rfl, hf.1, hf.2.1, hf.2.2⟩
    · have hd : decide ((t : Int) < 3) = false := by rw [decide_eq_false_iff_not]; omega
      have hf := FIN.out wr (Below.refl _ _)
      go_wp2
      go_ret
      exact ⟨ro, rc, l, HS.out, rfl, hf.1, hf.2.1, hf.2.2⟩

/-- a drawn list and two numbers, handed back -/
def DrawnTwo (e : Ending) (w' : World) : Prop := ∃ ro rc l, ∃ (a b : Int), Smp l ∧ e = .returned (.tuple #[.slice ro l.length rc, .int .i64 a, .int .i64 b]) ∧ CellsAt w' ro (l.map Value.string)

set_option maxRecDepth 100000 in
theorem l91Order_any (ao : Option Addr) (cap : Nat) (c : List UInt8) (w : World) (hcap : c.length ≤ cap) (hl : c.length ≤ 1048576) (hc : CellsAt w ao (c.map byteV)) :
    Calls Try.prog 31 #[.slice ao c.length cap] w fun e w' => Drawn w.heap.size e w' ∧ Below w.heap.size w w' := by
  go_enter Try.func31, Try.ntmps31
  go_wp2_with (first
    | (go_at_call 20; refine (l6Open_any _ _ _ _ hcap hl hc).mono ?_; rintro e w1 ⟨rfl, hr1, hb1⟩)
    | (go_at_call 40; refine (l91Plain_any 0 w.heap.size 5 5 _ (by omega) (by omega) (by omega) hr1).mono ?_; rintro e w2 ⟨ro, rc, l, hsm, rfl, hla, hr2, hg2⟩))
  go_ret
  exact ⟨⟨ro, rc, l, hsm, rfl, hla.1⟩, below_reader hb1 hb1.size hg2⟩

end Go.Proofs.Ytamfnahbhhmiiaa

/-
  Draws of a plan and of needs of its rooms. (Walks.)
-/
namespace Go.Proofs.Ytamfnahbhhmiiaa
open Go.RowKit

theorem roomsB_few (p : List ByteArray) : 0 ≤ roomsB p ∧ roomsB p ≤ 159 := by
  have hr : ∀ (i : Nat) (l : List UInt8) (k : Nat) (st : Int), 0 ≤ st ∧ st ≤ 159 → 0 ≤ rowFold roomsF i k l st ∧ rowFold roomsF i k l st ≤ 159 := by
    intro i l
    induction l with
    | nil => intro k st h; exact h
    | cons c t ih =>
      intro k st h
      rw [rowFold]
      refine ih _ _ ?_
      have := c.toNat_lt
      unfold roomsF
      split <;> omega
  have hg : ∀ (l : List ByteArray) (i : Nat) (st : Int), 0 ≤ st ∧ st ≤ 159 → 0 ≤ gridFold roomsF i l st ∧ gridFold roomsF i l st ≤ 159 := by
    intro l
    induction l with
    | nil => intro i st h; exact h
    | cons s t ih =>
      intro i st h
      rw [gridFold]
      exact ih _ _ (hr _ _ _ _ h)
  exact hg p 0 0 (by omega)

/-- needs that are drawn -/
def NeedsAt (B : Nat) (w : World) (bo : Option Addr) (l : List Int) : Prop := CellsAt w bo (l.map (Value.int .i64)) ∧ ∀ a, bo = some a → a.block ≠ B
theorem NeedsAt.grown {B : Nat} {w w' : World} {ao : Option Addr} {l : List Int} (h : NeedsAt B w ao l) (hg : w.grownBy w' (some B)) : NeedsAt B w' ao l :=
  ⟨h.1.grown hg (fun a ha => by have := h.2 a ha; simpa using this), h.2⟩

/-- a drawn list and needs, handed back -/
def DrawnNeeds (e : Ending) (w' : World) : Prop := ∃ ro rc l bo kb, ∃ m : List Int, Smp l ∧ m.length ≤ 160 ∧ e = .returned (.tuple #[.slice ro l.length rc, .slice bo m.length kb]) ∧ CellsAt w' ro (l.map Value.string) ∧ CellsAt w' bo (m.map (Value.int .i64))

/-- a drawn list and two lists of needs, handed back -/
def DrawnNeeds2 (e : Ending) (w' : World) : Prop := ∃ ro rc l bo kb, ∃ m : List Int, ∃ co kc, ∃ n : List Int, Smp l ∧ m.length ≤ 160 ∧ n.length ≤ 160 ∧ e = .returned (.tuple #[.slice ro l.length rc, .slice bo m.length kb, .slice co n.length kc]) ∧ CellsAt w' ro (l.map Value.string) ∧ CellsAt w' bo (m.map (Value.int .i64)) ∧ CellsAt w' co (n.map (Value.int .i64))

end Go.Proofs.Ytamfnahbhhmiiaa

/-
  Draws of the laws of permutations of plans. (Walks.)
-/
namespace Go.Proofs.Ytamfnahbhhmiiaa
open Go.RowKit

set_option maxRecDepth 100000 in
theorem drawOrderPerm_any (ao : Option Addr) (cap : Nat) (c : List UInt8) (w : World) (hcap : c.length ≤ cap) (hl : c.length ≤ 1048576) (hc : CellsAt w ao (c.map byteV)) :
    Calls Try.prog 11 #[.slice ao c.length cap] w fun e w' => Drawn w.heap.size e w' ∧ Below w.heap.size w w' := by
  go_enter Try.func11, Try.ntmps11
  go_wp2_with (go_at_call 31; refine (l91Order_any _ _ _ _ hcap hl hc).mono ?_; rintro e w1 ⟨hd, hb1⟩; obtain ⟨ro, rc, l, hsm, rfl, hla⟩ := hd)
  go_ret
  exact ⟨⟨ro, rc, l, hsm, rfl, hla⟩, hb1⟩
end Go.Proofs.Ytamfnahbhhmiiaa
