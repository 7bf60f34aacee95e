
/-
  Merged texts: DrawQ DrawR.
-/
import Derived.Test.YtobkbgbkkiiloaaPick
import Derived.Test.YtobkbgbkkiiloaaNests
import Derived.Test.YtobkbgbkkiiloaaDraw
import Derived.Test.YtobkbgbkkiiloaaPoint

/-
  Merged texts: DrawV DrawQ.
-/
/-
  Merged texts: DrawH DrawV.
-/
/-
  The sheets that are drawn. (Walks.)
-/
namespace Go.Proofs.Ytobkbgbkkiiloaa
open Go.RowKit

theorem below_shpicks {w w1 w2 : World} {B : Nat} (h : Below w.heap.size w w1) (hB : w.heap.size ≤ B) (hg : w1.grownBy w2 (some B)) : Below w.heap.size w w2 :=
  h.trans (below_of_grownBy hg h.size (fun k hk => by cases hk; exact hB))
end Go.Proofs.Ytobkbgbkkiiloaa

/-
  The kinds of pieces that are drawn. (Walks.)
-/
namespace Go.Proofs.Ytobkbgbkkiiloaa
open Go.RowKit

theorem rd_code {ao : Option Addr} {cap : Nat} {c : List UInt8} {N B : Nat} {w : World} (h : RdC ao cap c N B w) : c.length = 0 ∨ ∀ a, ao = some a → a.block < w.heap.size := by
  obtain ⟨p, h1, h2, h3, h4, h5⟩ := h
  rcases Nat.eq_zero_or_pos c.length with h0 | h0
  · exact .inl h0
  · right
    intro a ha
    obtain ⟨b, off, he, hc⟩ := h4.byte 0 h0
    rw [ha] at he
    cases he
    exact World.block_lt_of_cell? _ _ hc
/-- a reader stays where something else is written -/
theorem rd_kept {ao : Option Addr} {cap : Nat} {c : List UInt8} {N B : Nat} {w w' : World} {row : Option Nat} (h : RdC ao cap c N B w) (hg : w.grownBy w' row) (hB : some B ≠ row) (hc : c.length = 0 ∨ ∀ a, ao = some a → some a.block ≠ row) : RdC ao cap c N B w' := by
  obtain ⟨p, h1, h2, h3, h4, h5⟩ := h
  refine ⟨p, h1, h2, h3.kept hg hB, ?_, h5⟩
  rcases hc with h0 | h0
  · rw [List.length_eq_zero_iff.1 h0]; exact CellsAt.nil _ _
  · exact h4.grown hg h0
/-- three lists in the making, each apart from the others -/
structure Three (w : World) (base na nb nc : Nat) (ao bo co : Option Addr) (ka kb kc : Nat) (la lb lc : List Int) : Prop where
  a : w.ownsRow base 3 1 (.slice ao na ka) na (la.map (Value.int .i64))
  b : w.ownsRow base 3 1 (.slice bo nb kb) nb (lb.map (Value.int .i64))
  c : w.ownsRow base 3 1 (.slice co nc kc) nc (lc.map (Value.int .i64))
  ab : Apart ao bo
  ac : Apart ao co
  bc : Apart bo co
theorem ownBlock_base {w : World} {base : Nat} {e : TypeId} {size : Nat} {ao : Option Addr} {m cap n g : Nat} {xs : List Value} (h : w.ownsRow base e size (.slice ao m cap) n xs) (hg : g < base) : some g ≠ Value.ownBlock (.slice ao m cap) := by
  cases ao with
  | none => simp [Value.ownBlock]
  | some a =>
    have := (owns_lt h a rfl).1
    simp only [Value.ownBlock, ne_eq, Option.some.injEq]
    omega
theorem three_len {w : World} {base k m : Nat} {ao : Option Addr} {l : List Int} (h : w.ownsRow base 3 1 (.slice ao k m) k (l.map (Value.int .i64))) : l.length = k := by
  have := ownsRow_len h; rwa [List.length_map] at this
theorem three_made (w : World) : Three (((w.alloc (.cells #[] 3)).alloc (.cells #[] 3)).alloc (.cells #[] 3)) w.heap.size 0 0 0 (some ⟨w.heap.size, 0, none⟩) (some ⟨w.heap.size + 1, 0, none⟩) (some ⟨w.heap.size + 1 + 1, 0, none⟩) 0 0 0 [] [] [] := by
  have h1 : (w.alloc (.cells #[] 3)).ownsRow w.heap.size 3 1 (.slice (some ⟨w.heap.size, 0, none⟩) 0 0) 0 [] := World.ownsRow_made w #[] 0 (Nat.le_refl _) (Nat.zero_le _) rfl
  have h2 : ((w.alloc (.cells #[] 3)).alloc (.cells #[] 3)).ownsRow w.heap.size 3 1 (.slice (some ⟨(w.alloc (.cells #[] 3)).heap.size, 0, none⟩) 0 0) 0 [] := ownsRow_base (World.ownsRow_made (w.alloc (.cells #[] 3)) #[] 0 (Nat.le_refl _) (Nat.zero_le _) rfl) (by simp)
  have h3 : (((w.alloc (.cells #[] 3)).alloc (.cells #[] 3)).alloc (.cells #[] 3)).ownsRow w.heap.size 3 1 (.slice (some ⟨((w.alloc (.cells #[] 3)).alloc (.cells #[] 3)).heap.size, 0, none⟩) 0 0) 0 [] := ownsRow_base (World.ownsRow_made ((w.alloc (.cells #[] 3)).alloc (.cells #[] 3)) #[] 0 (Nat.le_refl _) (Nat.zero_le _) rfl) (by simp; omega)
  rw [World.size_alloc] at h2
  rw [World.size_alloc, World.size_alloc] at h3
  exact ⟨ownsRow_below (ownsRow_below h1 (below_alloc _ _)) (below_alloc _ _), ownsRow_below h2 (below_alloc _ _), h3, fun a b ha hb => by cases ha; cases hb; simp, fun a b ha hb => by cases ha; cases hb; simp; omega, fun a b ha hb => by cases ha; cases hb; simp⟩
theorem three_kept {w w' : World} {base na nb nc g : Nat} {ao bo co : Option Addr} {ka kb kc : Nat} {la lb lc : List Int} (h : Three w base na nb nc ao bo co ka kb kc la lb lc) (hg : w.grownBy w' (some g)) (hlt : g < base) : Three w' base na nb nc ao bo co ka kb kc la lb lc :=
  ⟨h.a.kept hg (.inr (ownBlock_base h.a hlt).symm), h.b.kept hg (.inr (ownBlock_base h.b hlt).symm), h.c.kept hg (.inr (ownBlock_base h.c hlt).symm), h.ab, h.ac, h.bc⟩
theorem code_ne {cc : List UInt8} {cao ao : Option Addr} {n : Nat} {w : World} {e : TypeId} {size m cap k : Nat} {xs : List Value} (h : cc.length = 0 ∨ ∀ a, cao = some a → a.block < n) (ho : w.ownsRow n e size (.slice ao m cap) k xs) : cc.length = 0 ∨ ∀ a, cao = some a → some a.block ≠ Value.ownBlock (.slice ao m cap) :=
  h.imp id (fun h a ha => ownBlock_base ho (h a ha))
theorem Three.push_a {w w' : World} {o : Obj} {base na nb nc : Nat} {ao bo co ao' : Option Addr} {ka kb kc ka' : Nat} {la lb lc : List Int} (h : Three w base na nb nc ao bo co ka kb kc la lb lc) (v : Int)
    (hown : w'.ownsRow base 3 1 (.slice ao' (na + 1) ka') (na + 1) (la.map (Value.int .i64) ++ [.int .i64 v])) (hg : (w.alloc o).grownBy w' (Value.ownBlock (.slice ao na ka))) (hn : NewOr (w.alloc o) ao ao') :
    Three w' base (na + 1) nb nc ao' bo co ka' kb kc (la ++ [v]) lb lc :=
  ⟨by rw [List.map_append]; exact hown, owns_push_other h.b hg h.ab.symm, owns_push_other h.c hg h.ac.symm, apart_push h.ab hn (fun b hb => (owns_lt h.b b hb).2), apart_push h.ac hn (fun b hb => (owns_lt h.c b hb).2), h.bc⟩
theorem Three.push_b {w w' : World} {o : Obj} {base na nb nc : Nat} {ao bo co bo' : Option Addr} {ka kb kc kb' : Nat} {la lb lc : List Int} (h : Three w base na nb nc ao bo co ka kb kc la lb lc) (v : Int)
    (hown : w'.ownsRow base 3 1 (.slice bo' (nb + 1) kb') (nb + 1) (lb.map (Value.int .i64) ++ [.int .i64 v])) (hg : (w.alloc o).grownBy w' (Value.ownBlock (.slice bo nb kb))) (hn : NewOr (w.alloc o) bo bo') :
    Three w' base na (nb + 1) nc ao bo' co ka kb' kc la (lb ++ [v]) lc :=
  ⟨owns_push_other h.a hg h.ab, by rw [List.map_append]; exact hown, owns_push_other h.c hg h.bc.symm, (apart_push h.ab.symm hn (fun b hb => (owns_lt h.a b hb).2)).symm, h.ac, apart_push h.bc hn (fun b hb => (owns_lt h.c b hb).2)⟩
theorem Three.push_c {w w' : World} {o : Obj} {base na nb nc : Nat} {ao bo co co' : Option Addr} {ka kb kc kc' : Nat} {la lb lc : List Int} (h : Three w base na nb nc ao bo co ka kb kc la lb lc) (v : Int)
    (hown : w'.ownsRow base 3 1 (.slice co' (nc + 1) kc') (nc + 1) (lc.map (Value.int .i64) ++ [.int .i64 v])) (hg : (w.alloc o).grownBy w' (Value.ownBlock (.slice co nc kc))) (hn : NewOr (w.alloc o) co co') :
    Three w' base na nb (nc + 1) ao bo co' ka kb kc' la lb (lc ++ [v]) :=
  ⟨owns_push_other h.a hg h.ac, owns_push_other h.b hg h.bc, by rw [List.map_append]; exact hown, h.ab, (apart_push h.ac.symm hn (fun b hb => (owns_lt h.a b hb).2)).symm, (apart_push h.bc.symm hn (fun b hb => (owns_lt h.b b hb).2)).symm⟩

end Go.Proofs.Ytobkbgbkkiiloaa

/-
  Merged texts: DrawO DrawQ.
-/
/-
  Draws of a mostly plain plan and rooms, for the laws of orders. (Walks.)
-/
namespace Go.Proofs.Ytobkbgbkkiiloaa
open Go.RowKit

set_option maxRecDepth 100000 in
set_option maxHeartbeats 2000000 in
theorem l91Plain_any (N B rows cols : Nat) (w : World) (hN : N ≤ 20000) (hn : rows ≤ 7) (hm : cols ≤ 7) (h : RdAt N B w) :
    Calls Try.prog 15 #[.pointer (some ⟨B, 0, none⟩), .int .i64 (rows : Nat), .int .i64 (cols : Nat)] w
      fun e w' => ∃ ro rc l, Smp l ∧ e = .returned (.slice ro l.length rc) ∧ ListAt B w' ro l ∧ RdAt (N + 240) B w' ∧ w.grownBy w' (some B) := by
  go_enter Try.func15, Try.ntmps15
  go_wp2_with (go_at_call 25; refine (l91Some_any N B rows cols _ (by omega) hn hm h).mono ?_; rintro e w1 ⟨ro, rc, l, hsm, rfl, hla, hr1, hg1⟩)
  clear h
  go_loopw [7, 8] (fun v7 v8 wr => ∃ t : Nat, t ≤ 3 ∧ v8 = .int .i64 t ∧ ∃ (ro : Option Addr) (rc : Nat) (l : List ByteArray), v7 = .slice ro l.length rc ∧ Hid (Smp l) ∧ Hid (ListAt B wr ro l) ∧ Hid (RdAt (N + 60 + 60 * t) B wr) ∧ Hid (w.grownBy wr (some B))) (fun _ v _ => 3 - (intOf v).toNat)
  case atStart => exact ⟨0, Nat.zero_le _, rfl, ro, rc, l, rfl, Lib.hid hsm, Lib.hid hla, Lib.hid hr1, Lib.hid hg1⟩
  case round =>
    clear hsm hla hr1 hg1
    obtain ⟨t, ht, rfl, ro, rc, l, rfl, HS, HL, HR, HG⟩ := hrel
    have fin : ∀ w2 : World, Below wr.heap.size wr w2 → ListAt B w2 ro l ∧ RdAt (N + 240) B w2 ∧ w.grownBy w2 (some B) := fun w2 hb => ⟨HL.out.below hb, (HR.out.below hb).mono (by omega), grownBy_b HG.out hb⟩
    have FIN := Lib.hid fin; clear fin
    by_cases ht3 : t < 3
    · have hd : decide ((t : Int) < 3) = true := by rw [decide_eq_true_eq]; omega
      have HP := Lib.hid (fun w hc => specWallPlain_any ro rc l w HS.out.small.1 HS.out.small.2 hc)
      cases hx : (planB l && decide (meetN l 4 = 0))
      · rw [hx] at HP
        go_wp2_with (first
          | (go_at_call 26; refine (HP.out _ HL.out.1).mono ?_; rintro e w2 ⟨rfl, hb2⟩; have HR2 := Lib.hid (HR.out.below hb2); have HG2 := Lib.hid (grownBy_b HG.out hb2))
          | (go_at_call 25; refine (l91Some_any (N + 60 + 60 * t) B rows cols _ (by omega) hn hm HR2.out).mono ?_; rintro e w3 ⟨ro3, rc3, l3, hsm3, rfl, hla3, hr3, hg3⟩; have HS3 := Lib.hid hsm3; have HL3 := Lib.hid hla3; have HR3 := Lib.hid (hr3.mono (M := N + 60 + 60 * (t + 1)) (by omega)); have HG3 := Lib.hid (grownBy_trans HG2.out hg3); clear hsm3 hla3 hr3 hg3))
        go_roundw
        case rel => exact ⟨t + 1, by omega, by go_num, ro3, rc3, l3, rfl, HS3, HL3, HR3, HG3⟩
        case measure => simp [intOf]; omega
      · rw [hx] at HP
        go_wp2_with (go_at_call 26; refine (HP.out _ HL.out.1).mono ?_; rintro e w2 ⟨rfl, hb2⟩)
        have hf := FIN.out w2 hb2
        go_ret
        exact ⟨ro, rc, l, HS.out, rfl, hf.1, hf.2.1, hf.2.2⟩
    · have hd : decide ((t : Int) < 3) = false := by rw [decide_eq_false_iff_not]; omega
      have hf := FIN.out wr (Below.refl _ _)
      go_wp2
      go_ret
      exact ⟨ro, rc, l, HS.out, rfl, hf.1, hf.2.1, hf.2.2⟩

/-- a drawn list and two numbers, handed back -/
def DrawnTwo (e : Ending) (w' : World) : Prop := ∃ ro rc l, ∃ (a b : Int), Smp l ∧ e = .returned (.tuple #[.slice ro l.length rc, .int .i64 a, .int .i64 b]) ∧ CellsAt w' ro (l.map Value.string)

end Go.Proofs.Ytobkbgbkkiiloaa

/-
  Draws of a plan and of needs of its rooms. (Walks.)
-/
namespace Go.Proofs.Ytobkbgbkkiiloaa
open Go.RowKit

theorem roomsB_few (p : List ByteArray) : 0 ≤ roomsB p ∧ roomsB p ≤ 159 := by
  have hr : ∀ (i : Nat) (l : List UInt8) (k : Nat) (st : Int), 0 ≤ st ∧ st ≤ 159 → 0 ≤ rowFold roomsF i k l st ∧ rowFold roomsF i k l st ≤ 159 := by
    intro i l
    induction l with
    | nil => intro k st h; exact h
    | cons c t ih =>
      intro k st h
      rw [rowFold]
      refine ih _ _ ?_
      have := c.toNat_lt
      unfold roomsF
      split <;> omega
  have hg : ∀ (l : List ByteArray) (i : Nat) (st : Int), 0 ≤ st ∧ st ≤ 159 → 0 ≤ gridFold roomsF i l st ∧ gridFold roomsF i l st ≤ 159 := by
    intro l
    induction l with
    | nil => intro i st h; exact h
    | cons s t ih =>
      intro i st h
      rw [gridFold]
      exact ih _ _ (hr _ _ _ _ h)
  exact hg p 0 0 (by omega)

/-- needs that are drawn -/
def NeedsAt (B : Nat) (w : World) (bo : Option Addr) (l : List Int) : Prop := CellsAt w bo (l.map (Value.int .i64)) ∧ ∀ a, bo = some a → a.block ≠ B
theorem NeedsAt.grown {B : Nat} {w w' : World} {ao : Option Addr} {l : List Int} (h : NeedsAt B w ao l) (hg : w.grownBy w' (some B)) : NeedsAt B w' ao l :=
  ⟨h.1.grown hg (fun a ha => by have := h.2 a ha; simpa using this), h.2⟩

set_option maxRecDepth 100000 in
set_option maxHeartbeats 8000000 in
theorem l92Needs_any (N B cap : Nat) (ao : Option Addr) (p : List ByteArray) (w : World) (hN : N ≤ 20000) (hsm : Smp p) (h : RdAt N B w) (hp : ListAt B w ao p) :
    Calls Try.prog 17 #[.pointer (some ⟨B, 0, none⟩), .slice ao p.length cap] w fun e w' => ∃ bo kb l, l.length ≤ 160 ∧ e = .returned (.slice bo l.length kb) ∧ NeedsAt B w' bo l ∧ RdAt (N + 400) B w' ∧ w.grownBy w' (some B) := by
  obtain ⟨im, hmi, hmz, hm1, hm2⟩ := info_parts Try.infoNum
  obtain ⟨cao, ccap, cc, hr⟩ := h.told
  obtain ⟨hr0, hr1⟩ := roomsB_few p
  have HS := Lib.hid hsm; have HP := Lib.hid hp
  clear h hsm hp
  have hBw : B < w.heap.size := hr.lt
  have hcode := rd_code hr
  have hP1 : CellsAt (w.alloc (.cells #[] 3)) ao (p.map Value.string) := HP.out.1.below (below_alloc w _)
  have hX : (w.alloc (.cells #[] 3)).ownsRow w.heap.size 3 1 (.slice (some ⟨w.heap.size, 0, none⟩) 0 0) 0 (([] : List Int).map (Value.int .i64)) := World.ownsRow_made w #[] 0 (Nat.le_refl _) (Nat.zero_le _) rfl
  have hra : RdC cao ccap cc N B (w.alloc (.cells #[] 3)) := hr.below (below_alloc _ _)
  have hga : w.grownBy (w.alloc (.cells #[] 3)) (some B) := grownBy_of_below (below_alloc w _) _
  clear hr
  go_enter Try.func17, Try.ntmps17
  go_wp2_with fail
  refine (l1Rooms_any _ _ _ _ HS.out.small.1 HS.out.small.2 hP1).mono ?_
  rintro e w1 ⟨rfl, rfl⟩
  go_wp2_with fail
  refine (pick_c cao ccap cc N B 40 _ (by omega) hra).mono ?_
  rintro e w2 ⟨v1, rfl, hv1, hr2, hg2⟩
  have hl1 : v1 < 40 := by omega
  clear hv1 hP1
  have hX2 : w2.ownsRow w.heap.size 3 1 (.slice (some ⟨w.heap.size, 0, none⟩) 0 0) 0 (([] : List Int).map (Value.int .i64)) := hX.kept hg2 (.inr (ownBlock_base hX hBw).symm)
  have hg : w.grownBy w2 (some B) := grownBy_trans hga hg2
  clear hX hra hga hg2
  obtain ⟨n, hn, hn5⟩ : ∃ n : Nat, roomsB p + (v1 : Int) / 39 = (n : Int) ∧ n ≤ 160 := ⟨(roomsB p + (v1 : Int) / 39).toNat, by omega, by omega⟩
  have HNN := Lib.hid hn
  clear hn
  have hs2 := hg.size
  go_wp2
  rw [HNN.out]
  generalize roomsB p = rb at *
  go_loopw [5, 7] (fun va vi wr => ∃ (i : Nat) (bo : Option Addr) (kb : Nat) (l : List Int), i ≤ n ∧ vi = .int .i64 (i : Int) ∧ va = .slice bo i kb ∧ wr.ownsRow w.heap.size 3 1 (.slice bo i kb) i (l.map (Value.int .i64)) ∧ RdC cao ccap cc (N + 1 + 2 * i) B wr ∧ w.heap.size ≤ wr.heap.size ∧ w.grownBy wr (some B)) (fun _ vi _ => n - (intOf vi).toNat)
  case atStart => exact ⟨0, _, _, [], by omega, rfl, rfl, hX2, hr2, hs2, hg⟩
  case round =>
    clear hX2 hr2 hs2 hg
    obtain ⟨i, bo, kb, l, hi, rfl, rfl, hT, hr, hbs0, hG⟩ := hrel
    by_cases hlt : i < n
    · have hlt2 : (i : Int) < (n : Int) := by omega
      go_wp2_with fail
      refine (pick_c cao ccap cc (N + 1 + 2 * i) B 6 _ (by omega) hr).mono ?_
      rintro e wq0 ⟨u0, rfl, hv, hr2, hg⟩
      have hu0 : u0 < 6 := by omega
      replace hT := hT.kept hg (.inr (ownBlock_base hT hBw).symm)
      replace hG := grownBy_trans hG hg
      have hbs : w.heap.size ≤ wq0.heap.size := Nat.le_trans hbs0 hg.size
      clear hv hg hr hbs0
      have hr := hr2
      have hbs0 := hbs
      clear hr2 hbs
      go_wp2_with fail
      refine (pick_c cao ccap cc (N + 1 + 2 * i + 1) B 60 _ (by omega) hr).mono ?_
      rintro e wq1 ⟨u1, rfl, hv, hr2, hg⟩
      have hu1 : u1 < 60 := by omega
      replace hT := hT.kept hg (.inr (ownBlock_base hT hBw).symm)
      replace hG := grownBy_trans hG hg
      have hbs : w.heap.size ≤ wq1.heap.size := Nat.le_trans hbs0 hg.size
      clear hv hg hr hbs0
      have hr := hr2
      have hbs0 := hbs
      clear hr2 hbs
      go_wp2_with (at_builtin; refine wpList_push _ rfl _ _ 24 rfl w.heap.size 3 im (.int .i64 0) 8 Try.underlying24 hmi hmz hm1 hm2 rfl bo _ kb _ rfl (ownsRow_below hT (below_alloc _ _)) _ _ _ rfl (cell_new _ _ _) rfl (by unfold maxLen; omega) (by omega) (by simp; omega) ?_; intro oc kc2 wc hown hg hnew)
      replace hr := rd_kept (hr.below (below_alloc _ _)) hg (ownBlock_base hT hBw) (code_ne hcode hT)
      have hT2 : wc.ownsRow w.heap.size 3 1 (.slice oc (i + 1) kc2) (i + 1) ((l ++ [1 + (u0 : Int) + (u1 : Int) / 59 * 9]).map (Value.int .i64)) := by rw [List.map_append]; exact hown
      have hbs : w.heap.size ≤ wc.heap.size := Nat.le_trans hbs0 (by have := hg.size; simp at this; omega)
      replace hG := grownBy_step (grownBy_b hG (below_alloc _ _)) hg (fun k hk => .inr (by cases bo with | none => simp [Value.ownBlock] at hk | some a => have := (owns_lt hT a rfl).1; simp [Value.ownBlock] at hk; omega))
      clear hT hown hg hnew hbs0
      have hT := hT2
      have hbs0 := hbs
      clear hT2 hbs
      go_roundw
      case rel => exact ⟨i + 1, _, _, _, by omega, by go_num, rfl, hT, hr.mono (by omega), hbs0, hG⟩
      case measure => simp [intOf]; omega
    · have hli : decide ((i : Int) < (n : Int)) = false := by rw [decide_eq_false_iff_not]; omega
      obtain rfl : i = n := by omega
      have hlen : l.length = i := three_len hT
      go_wp2
      go_ret
      exact ⟨bo, kb, l, by omega, by rw [hlen]; rfl, ⟨owns_cells hT, fun a ha => by have := (owns_lt hT a ha).1; omega⟩, (hr.mono (by omega)).rd, hG⟩

/-- a drawn list and needs, handed back -/
def DrawnNeeds (e : Ending) (w' : World) : Prop := ∃ ro rc l bo kb, ∃ m : List Int, Smp l ∧ m.length ≤ 160 ∧ e = .returned (.tuple #[.slice ro l.length rc, .slice bo m.length kb]) ∧ CellsAt w' ro (l.map Value.string) ∧ CellsAt w' bo (m.map (Value.int .i64))

/-- a drawn list and two lists of needs, handed back -/
def DrawnNeeds2 (e : Ending) (w' : World) : Prop := ∃ ro rc l bo kb, ∃ m : List Int, ∃ co kc, ∃ n : List Int, Smp l ∧ m.length ≤ 160 ∧ n.length ≤ 160 ∧ e = .returned (.tuple #[.slice ro l.length rc, .slice bo m.length kb, .slice co n.length kc]) ∧ CellsAt w' ro (l.map Value.string) ∧ CellsAt w' bo (m.map (Value.int .i64)) ∧ CellsAt w' co (n.map (Value.int .i64))

set_option maxRecDepth 100000 in
set_option maxHeartbeats 4000000 in
theorem l92Shaped_any (ao : Option Addr) (cap : Nat) (c : List UInt8) (w : World) (hcap : c.length ≤ cap) (hl : c.length ≤ 1048576) (hc : CellsAt w ao (c.map byteV)) :
    Calls Try.prog 9 #[.slice ao c.length cap] w fun e w' => DrawnNeeds2 e w' ∧ Below w.heap.size w w' := by
  have HO := Lib.hid (l6Open_any ao cap c w hcap hl hc)
  clear hc
  go_enter Try.func9, Try.ntmps9
  go_wp2_with fail
  refine HO.out.mono ?_
  rintro e w1 ⟨rfl, hr1, hb1⟩
  go_wp2_with fail
  refine (l91Plain_any 0 w.heap.size 3 4 _ (by omega) (by omega) (by omega) hr1).mono ?_
  rintro e w2 ⟨ro0, rc0, l0, hsm0, rfl, hla0, hr2, hg2⟩
  have HB2 := below_reader hb1 hb1.size hg2
  clear hb1 hg2 hr1
  go_wp2_with fail
  go_loopw [6, 7] (fun v6 v7 wr => ∃ t : Nat, t ≤ 3 ∧ v7 = .int .i64 t ∧ ∃ (ro : Option Addr) (rc : Nat) (l : List ByteArray), v6 = .slice ro l.length rc ∧ Hid (Smp l) ∧ Hid (ListAt w.heap.size wr ro l) ∧ Hid (RdAt (240 + 240 * t) w.heap.size wr) ∧ Hid (Below w.heap.size w wr)) (fun _ v _ => 3 - (intOf v).toNat)
  case atStart => exact ⟨0, Nat.zero_le _, rfl, ro0, rc0, l0, rfl, Lib.hid hsm0, Lib.hid hla0, Lib.hid hr2, Lib.hid HB2⟩
  case round =>
    clear hsm0 hla0 hr2 HB2
    obtain ⟨t, ht, rfl, ro, rc, l, rfl, HS, HL, HR, HB⟩ := hrel
    by_cases hgo : t < 3 ∧ 6 < roomsB l
    · have hd : decide ((t : Int) < 3) = true := by rw [decide_eq_true_eq]; omega
      have hd2 : decide (6 < roomsB l) = true := by rw [decide_eq_true_eq]; omega
      go_wp2_with fail
      refine (l1Rooms_any _ _ _ _ HS.out.small.1 HS.out.small.2 HL.out.1).mono ?_
      rintro e w3 ⟨rfl, rfl⟩
      go_wp2_with fail
      refine (l91Plain_any (240 + 240 * t) w.heap.size 3 3 _ (by omega) (by omega) (by omega) HR.out).mono ?_
      rintro e w4 ⟨ro4, rc4, l4, hsm4, rfl, hla4, hr4, hg4⟩
      have HB4 := Lib.hid (below_reader HB.out HB.out.size hg4)
      have HS4 := Lib.hid hsm4; have HL4 := Lib.hid hla4; have HR4 := Lib.hid hr4
      clear hg4 hsm4 hla4 hr4
      go_wp2
      go_roundw
      case rel => exact ⟨t + 1, by omega, by go_num, ro4, rc4, l4, rfl, HS4, HL4, Lib.hid (HR4.out.mono (by omega)), HB4⟩
      case measure => simp [intOf]; omega
    · have fin : ∀ wz : World, wz = w → True := fun _ _ => trivial
      clear fin
      by_cases ht3 : t < 3
      · have hd : decide ((t : Int) < 3) = true := by rw [decide_eq_true_eq]; omega
        have hd2 : decide (6 < roomsB l) = false := by rw [decide_eq_false_iff_not]; omega
        go_wp2_with fail
        refine (l1Rooms_any _ _ _ _ HS.out.small.1 HS.out.small.2 HL.out.1).mono ?_
        rintro e w3 ⟨rfl, rfl⟩
        go_wp2_with fail
        refine (l92Needs_any (240 + 240 * t) w.heap.size _ _ _ _ (by omega) HS.out HR.out HL.out).mono ?_
        rintro e w5 ⟨bo, kb, m, hm, rfl, hnd, hr5, hg5⟩
        have HL5 := Lib.hid (HL.out.grown hg5)
        have HB5 := Lib.hid (below_reader HB.out HB.out.size hg5)
        have HN5 := Lib.hid hnd
        clear hg5 hnd
        go_wp2_with fail
        refine (l92Needs_any (240 + 240 * t + 400) w.heap.size _ _ _ _ (by omega) HS.out hr5 HL5.out).mono ?_
        rintro e w6 ⟨co, kc, n, hn, rfl, hnd, hr6, hg6⟩
        have HL6 := Lib.hid (HL5.out.grown hg6)
        have HN6 := Lib.hid (HN5.out.grown hg6)
        have HB6 := Lib.hid (below_reader HB5.out HB5.out.size hg6)
        clear hg6 hr5 hr6
        go_wp2
        refine bodyPost_ret (v := .tuple #[.slice ro l.length rc, .slice bo m.length kb, .slice co n.length kc]) (by simp [results, Try.f9, go_sem]) rfl ⟨⟨ro, rc, l, bo, kb, m, co, kc, n, HS.out, hm, hn, rfl, HL6.out.1, HN6.out.1, hnd.1⟩, HB6.out⟩
      · have hd : decide ((t : Int) < 3) = false := by rw [decide_eq_false_iff_not]; omega
        go_wp2_with fail
        refine (l92Needs_any (240 + 240 * t) w.heap.size _ _ _ _ (by omega) HS.out HR.out HL.out).mono ?_
        rintro e w5 ⟨bo, kb, m, hm, rfl, hnd, hr5, hg5⟩
        have HL5 := Lib.hid (HL.out.grown hg5)
        have HB5 := Lib.hid (below_reader HB.out HB.out.size hg5)
        have HN5 := Lib.hid hnd
        clear hg5 hnd
        go_wp2_with fail
        refine (l92Needs_any (240 + 240 * t + 400) w.heap.size _ _ _ _ (by omega) HS.out hr5 HL5.out).mono ?_
        rintro e w6 ⟨co, kc, n, hn, rfl, hnd, hr6, hg6⟩
        have HL6 := Lib.hid (HL5.out.grown hg6)
        have HN6 := Lib.hid (HN5.out.grown hg6)
        have HB6 := Lib.hid (below_reader HB5.out HB5.out.size hg6)
        clear hg6 hr5 hr6
        go_wp2
        refine bodyPost_ret (v := .tuple #[.slice ro l.length rc, .slice bo m.length kb, .slice co n.length kc]) (by simp [results, Try.f9, go_sem]) rfl ⟨⟨ro, rc, l, bo, kb, m, co, kc, n, HS.out, hm, hn, rfl, HL6.out.1, HN6.out.1, hnd.1⟩, HB6.out⟩

set_option maxRecDepth 100000 in
theorem drawSizeArea_any (ao : Option Addr) (cap : Nat) (c : List UInt8) (w : World) (hcap : c.length ≤ cap) (hl : c.length ≤ 1048576) (hc : CellsAt w ao (c.map byteV)) :
    Calls Try.prog 4 #[.slice ao c.length cap] w fun e w' => DrawnNeeds2 e w' ∧ Below w.heap.size w w' := by
  have HN := Lib.hid (l92Shaped_any ao cap c w hcap hl hc)
  clear hc
  go_enter Try.func4, Try.ntmps4
  go_wp2_with fail
  refine HN.out.mono ?_
  rintro e w1 ⟨⟨ro, rc, l, bo, kb, m, co, kc, n, h1, h2, h3, rfl, h4, h5, h6⟩, hb⟩
  go_wp2
  exact bodyPost_ret (v := .tuple #[.slice ro l.length rc, .slice bo m.length kb, .slice co n.length kc]) (by simp [results, Try.f4, go_sem]) rfl ⟨⟨ro, rc, l, bo, kb, m, co, kc, n, h1, h2, h3, rfl, h4, h5, h6⟩, hb⟩

end Go.Proofs.Ytobkbgbkkiiloaa

/-
  Draws of the laws of permutations of plans. (Walks.)
-/
namespace Go.Proofs.Ytobkbgbkkiiloaa
open Go.RowKit

end Go.Proofs.Ytobkbgbkkiiloaa
