
/-
  The kinds of pieces that are drawn. (Walks.)
-/
import Derived.Test.YtfemfmkgdgcemaaDrawH
import Derived.Test.YtfemfmkgdgcemaaNests
namespace Go.Proofs.Ytfemfmkgdgcemaa
open Go.RowKit

theorem rd_code {ao : Option Addr} {cap : Nat} {c : List UInt8} {N B : Nat} {w : World} (h : RdC ao cap c N B w) : c.length = 0 ∨ ∀ a, ao = some a → a.block < w.heap.size := by
  obtain ⟨p, h1, h2, h3, h4, h5⟩ := h
  rcases Nat.eq_zero_or_pos c.length with h0 | h0
  · exact .inl h0
  · right
    intro a ha
    obtain ⟨b, off, he, hc⟩ := h4.byte 0 h0
    rw [ha] at he
    cases he
    exact World.block_lt_of_cell? _ _ hc
/-- a reader stays where something else is written -/
theorem rd_kept {ao : Option Addr} {cap : Nat} {c : List UInt8} {N B : Nat} {w w' : World} {row : Option Nat} (h : RdC ao cap c N B w) (hg : w.grownBy w' row) (hB : some B ≠ row) (hc : c.length = 0 ∨ ∀ a, ao = some a → some a.block ≠ row) : RdC ao cap c N B w' := by
  obtain ⟨p, h1, h2, h3, h4, h5⟩ := h
  refine ⟨p, h1, h2, h3.kept hg hB, ?_, h5⟩
  rcases hc with h0 | h0
  · rw [List.length_eq_zero_iff.1 h0]; exact CellsAt.nil _ _
  · exact h4.grown hg h0
/-- three lists in the making, each apart from the others -/
structure Three (w : World) (base na nb nc : Nat) (ao bo co : Option Addr) (ka kb kc : Nat) (la lb lc : List Int) : Prop where
  a : w.ownsRow base 3 1 (.slice ao na ka) na (la.map (Value.int .i64))
  b : w.ownsRow base 3 1 (.slice bo nb kb) nb (lb.map (Value.int .i64))
  c : w.ownsRow base 3 1 (.slice co nc kc) nc (lc.map (Value.int .i64))
  ab : Apart ao bo
  ac : Apart ao co
  bc : Apart bo co
theorem ownBlock_base {w : World} {base : Nat} {e : TypeId} {size : Nat} {ao : Option Addr} {m cap n g : Nat} {xs : List Value} (h : w.ownsRow base e size (.slice ao m cap) n xs) (hg : g < base) : some g ≠ Value.ownBlock (.slice ao m cap) := by
  cases ao with
  | none => simp [Value.ownBlock]
  | some a =>
    have := (owns_lt h a rfl).1
    simp only [Value.ownBlock, ne_eq, Option.some.injEq]
    omega
theorem three_len {w : World} {base k m : Nat} {ao : Option Addr} {l : List Int} (h : w.ownsRow base 3 1 (.slice ao k m) k (l.map (Value.int .i64))) : l.length = k := by
  have := ownsRow_len h; rwa [List.length_map] at this
theorem three_made (w : World) : Three (((w.alloc (.cells #[] 3)).alloc (.cells #[] 3)).alloc (.cells #[] 3)) w.heap.size 0 0 0 (some ⟨w.heap.size, 0, none⟩) (some ⟨w.heap.size + 1, 0, none⟩) (some ⟨w.heap.size + 1 + 1, 0, none⟩) 0 0 0 [] [] [] := by
  have h1 : (w.alloc (.cells #[] 3)).ownsRow w.heap.size 3 1 (.slice (some ⟨w.heap.size, 0, none⟩) 0 0) 0 [] := World.ownsRow_made w #[] 0 (Nat.le_refl _) (Nat.zero_le _) rfl
  have h2 : ((w.alloc (.cells #[] 3)).alloc (.cells #[] 3)).ownsRow w.heap.size 3 1 (.slice (some ⟨(w.alloc (.cells #[] 3)).heap.size, 0, none⟩) 0 0) 0 [] := ownsRow_base (World.ownsRow_made (w.alloc (.cells #[] 3)) #[] 0 (Nat.le_refl _) (Nat.zero_le _) rfl) (by simp)
  have h3 : (((w.alloc (.cells #[] 3)).alloc (.cells #[] 3)).alloc (.cells #[] 3)).ownsRow w.heap.size 3 1 (.slice (some ⟨((w.alloc (.cells #[] 3)).alloc (.cells #[] 3)).heap.size, 0, none⟩) 0 0) 0 [] := ownsRow_base (World.ownsRow_made ((w.alloc (.cells #[] 3)).alloc (.cells #[] 3)) #[] 0 (Nat.le_refl _) (Nat.zero_le _) rfl) (by simp; omega)
  rw [World.size_alloc] at h2
  rw [World.size_alloc, World.size_alloc] at h3
  exact ⟨ownsRow_below (ownsRow_below h1 (below_alloc _ _)) (below_alloc _ _), ownsRow_below h2 (below_alloc _ _), h3, fun a b ha hb => by cases ha; cases hb; simp, fun a b ha hb => by cases ha; cases hb; simp; omega, fun a b ha hb => by cases ha; cases hb; simp⟩
theorem three_kept {w w' : World} {base na nb nc g : Nat} {ao bo co : Option Addr} {ka kb kc : Nat} {la lb lc : List Int} (h : Three w base na nb nc ao bo co ka kb kc la lb lc) (hg : w.grownBy w' (some g)) (hlt : g < base) : Three w' base na nb nc ao bo co ka kb kc la lb lc :=
  ⟨h.a.kept hg (.inr (ownBlock_base h.a hlt).symm), h.b.kept hg (.inr (ownBlock_base h.b hlt).symm), h.c.kept hg (.inr (ownBlock_base h.c hlt).symm), h.ab, h.ac, h.bc⟩
theorem code_ne {cc : List UInt8} {cao ao : Option Addr} {n : Nat} {w : World} {e : TypeId} {size m cap k : Nat} {xs : List Value} (h : cc.length = 0 ∨ ∀ a, cao = some a → a.block < n) (ho : w.ownsRow n e size (.slice ao m cap) k xs) : cc.length = 0 ∨ ∀ a, cao = some a → some a.block ≠ Value.ownBlock (.slice ao m cap) :=
  h.imp id (fun h a ha => ownBlock_base ho (h a ha))
theorem Three.push_a {w w' : World} {o : Obj} {base na nb nc : Nat} {ao bo co ao' : Option Addr} {ka kb kc ka' : Nat} {la lb lc : List Int} (h : Three w base na nb nc ao bo co ka kb kc la lb lc) (v : Int)
    (hown : w'.ownsRow base 3 1 (.slice ao' (na + 1) ka') (na + 1) (la.map (Value.int .i64) ++ [.int .i64 v])) (hg : (w.alloc o).grownBy w' (Value.ownBlock (.slice ao na ka))) (hn : NewOr (w.alloc o) ao ao') :
    Three w' base (na + 1) nb nc ao' bo co ka' kb kc (la ++ [v]) lb lc :=
  ⟨by rw [List.map_append]; exact hown, owns_push_other h.b hg h.ab.symm, owns_push_other h.c hg h.ac.symm, apart_push h.ab hn (fun b hb => (owns_lt h.b b hb).2), apart_push h.ac hn (fun b hb => (owns_lt h.c b hb).2), h.bc⟩
theorem Three.push_b {w w' : World} {o : Obj} {base na nb nc : Nat} {ao bo co bo' : Option Addr} {ka kb kc kb' : Nat} {la lb lc : List Int} (h : Three w base na nb nc ao bo co ka kb kc la lb lc) (v : Int)
    (hown : w'.ownsRow base 3 1 (.slice bo' (nb + 1) kb') (nb + 1) (lb.map (Value.int .i64) ++ [.int .i64 v])) (hg : (w.alloc o).grownBy w' (Value.ownBlock (.slice bo nb kb))) (hn : NewOr (w.alloc o) bo bo') :
    Three w' base na (nb + 1) nc ao bo' co ka kb' kc la (lb ++ [v]) lc :=
  ⟨owns_push_other h.a hg h.ab, by rw [List.map_append]; exact hown, owns_push_other h.c hg h.bc.symm, (apart_push h.ab.symm hn (fun b hb => (owns_lt h.a b hb).2)).symm, h.ac, apart_push h.bc hn (fun b hb => (owns_lt h.c b hb).2)⟩
theorem Three.push_c {w w' : World} {o : Obj} {base na nb nc : Nat} {ao bo co co' : Option Addr} {ka kb kc kc' : Nat} {la lb lc : List Int} (h : Three w base na nb nc ao bo co ka kb kc la lb lc) (v : Int)
    (hown : w'.ownsRow base 3 1 (.slice co' (nc + 1) kc') (nc + 1) (lc.map (Value.int .i64) ++ [.int .i64 v])) (hg : (w.alloc o).grownBy w' (Value.ownBlock (.slice co nc kc))) (hn : NewOr (w.alloc o) co co') :
    Three w' base na nb (nc + 1) ao bo co' ka kb kc' la lb (lc ++ [v]) :=
  ⟨owns_push_other h.a hg h.ac, owns_push_other h.b hg h.bc, by rw [List.map_append]; exact hown, h.ab, (apart_push h.ac.symm hn (fun b hb => (owns_lt h.a b hb).2)).symm, (apart_push h.bc.symm hn (fun b hb => (owns_lt h.b b hb).2)).symm⟩

set_option maxRecDepth 100000 in
set_option maxHeartbeats 8000000 in
theorem drawSheetValue_any (aC : Option Addr) (kC : Nat) (c : List UInt8) (w : World) (zC : c.length ≤ kC) (dC : c.length ≤ 1048576) (cC : CellsAt w aC (c.map byteV)) :
    Calls Try.prog 25 #[.slice aC c.length kC] w fun e w' => ∃ (x y : Int) (ao bo co : Option Addr) (ka kb kc k : Nat) (la lb lc : List Int), e = .returned (.tuple #[.int .i64 x, .int .i64 y, .slice ao k ka, .slice bo k kb, .slice co k kc]) ∧ (1 ≤ k ∧ k ≤ 5 ∧ la.length = k ∧ lb.length = k ∧ lc.length = k) ∧ CellsAt w' ao (la.map (Value.int .i64)) ∧ CellsAt w' bo (lb.map (Value.int .i64)) ∧ CellsAt w' co (lc.map (Value.int .i64)) ∧ Below w.heap.size w w' := by
  obtain ⟨im, hmi, hmz, hm1, hm2⟩ := info_parts Try.infoNum
  have HO := Lib.hid (l6Open_any aC kC c w zC dC cC)
  clear cC
  go_enter Try.func25, Try.ntmps25
  go_wp2_with fail
  refine HO.out.mono ?_
  rintro e w1 ⟨rfl, hr1, hb1⟩
  obtain ⟨cao, ccap, cc, hr⟩ := hr1.told
  clear HO hr1
  go_wp2_with fail
  refine (pick_c cao ccap cc 0 w.heap.size 12 _ (by omega) hr).mono ?_
  rintro e wp0 ⟨v0, rfl, hv0, hr0, hg0⟩
  have hl0 : v0 < 12 := by omega
  clear hv0 hr
  have hr := hr0
  clear hr0
  have hb2 := below_shpicks hb1 (Nat.le_refl _) hg0
  clear hb1 hg0
  go_wp2_with fail
  refine (pick_c cao ccap cc 1 w.heap.size 12 _ (by omega) hr).mono ?_
  rintro e wp1 ⟨v1, rfl, hv1, hr1, hg1⟩
  have hl1 : v1 < 12 := by omega
  clear hv1 hr
  have hr := hr1
  clear hr1
  have hb3 := below_shpicks hb2 (Nat.le_refl _) hg1
  clear hb2 hg1
  go_wp2_with fail
  refine (pick_c cao ccap cc 2 w.heap.size 3 _ (by omega) hr).mono ?_
  rintro e wp2 ⟨v2, rfl, hv2, hr2, hg2⟩
  have hl2 : v2 < 3 := by omega
  clear hv2 hr
  have hr := hr2
  clear hr2
  have hb4 := below_shpicks hb3 (Nat.le_refl _) hg2
  clear hb3 hg2
  go_wp2_with fail
  refine (pick_c cao ccap cc 3 w.heap.size 24 _ (by omega) hr).mono ?_
  rintro e wp3 ⟨v3, rfl, hv3, hr3, hg3⟩
  have hl3 : v3 < 24 := by omega
  clear hv3 hr
  have hr := hr3
  clear hr3
  have hb5 := below_shpicks hb4 (Nat.le_refl _) hg3
  clear hb4 hg3
  have hcode := rd_code hr
  have hrl := hr.lt
  rename World => w5
  obtain ⟨n, hn, hn1, hn5⟩ : ∃ n : Nat, 1 + (v2 : Int) + (v3 : Int) / 23 * 2 = (n : Int) ∧ 1 ≤ n ∧ n ≤ 5 := ⟨1 + v2 + v3 / 23 * 2, by omega, by omega, by omega⟩
  have HNN := Lib.hid hn
  clear hn
  have hBb : w.heap.size < w5.heap.size := hrl
  have hX : Three (((w5.alloc (.cells #[] 3)).alloc (.cells #[] 3)).alloc (.cells #[] 3)) w5.heap.size 0 0 0 (some ⟨w5.heap.size, 0, none⟩) (some ⟨w5.heap.size + 1, 0, none⟩) (some ⟨w5.heap.size + 1 + 1, 0, none⟩) 0 0 0 [] [] [] := three_made w5
  have hB3 : Below w.heap.size w (((w5.alloc (.cells #[] 3)).alloc (.cells #[] 3)).alloc (.cells #[] 3)) := ((hb5.alloc hb5.size _).alloc (by have := hb5.size; simp; omega) _).alloc (by have := hb5.size; simp; omega) _
  have hr3 : RdC cao ccap cc (3 + 1) w.heap.size (((w5.alloc (.cells #[] 3)).alloc (.cells #[] 3)).alloc (.cells #[] 3)) := ((hr.below (below_alloc _ _)).below (below_alloc _ _)).below (below_alloc _ _)
  have hs3 : w5.heap.size ≤ (((w5.alloc (.cells #[] 3)).alloc (.cells #[] 3)).alloc (.cells #[] 3)).heap.size := by simp; omega
  clear hr hrl
  go_wp2
  rw [HNN.out]
  generalize (((w5.alloc (.cells #[] 3)).alloc (.cells #[] 3)).alloc (.cells #[] 3)) = w6 at *
  go_loopw [11, 12, 13, 14] (fun va vb vc vi wr => ∃ (i : Nat) (ao bo co : Option Addr) (ka kb kc : Nat) (la lb lc : List Int), i ≤ n ∧ vi = .int .i64 (i : Int) ∧ va = .slice ao i ka ∧ vb = .slice bo i kb ∧ vc = .slice co i kc ∧ Three wr w5.heap.size i i i ao bo co ka kb kc la lb lc ∧ RdC cao ccap cc (4 + 4 * i) w.heap.size wr ∧ w5.heap.size ≤ wr.heap.size ∧ Below w.heap.size w wr) (fun _ _ _ vi _ => n - (intOf vi).toNat)
  case atStart => exact ⟨0, _, _, _, _, _, _, _, _, _, by omega, rfl, rfl, rfl, rfl, hX, hr3, hs3, hB3⟩
  case round =>
    clear hX hr3 hs3 hB3 hb5
    obtain ⟨i, ao, bo, co, ka, kb, kc, la, lb, lc, hi, rfl, rfl, rfl, rfl, hT, hr, hbs0, hB⟩ := hrel
    by_cases hlt : i < n
    · have hlt2 : (i : Int) < (n : Int) := by omega
      go_wp2_with fail
      refine (pick_c cao ccap cc (4 + 4 * i) w.heap.size 5 _ (by omega) hr).mono ?_
      rintro e wq0 ⟨u0, rfl, hv, hr2, hg⟩
      have hu0 : u0 < 5 := by omega
      replace hT := three_kept hT hg hBb
      replace hB := below_shpicks hB (Nat.le_refl _) hg
      have hbs : w5.heap.size ≤ wq0.heap.size := Nat.le_trans hbs0 hg.size
      clear hv hg hr hbs0
      have hr := hr2
      have hbs0 := hbs
      clear hr2 hbs
      go_wp2_with (at_builtin; refine wpList_push _ rfl _ _ 31 rfl w5.heap.size 3 im (.int .i64 0) 8 Try.underlying31 hmi hmz hm1 hm2 rfl ao _ ka _ rfl (ownsRow_below hT.a (below_alloc _ _)) _ _ _ rfl (cell_new _ _ _) rfl (by unfold maxLen; omega) (by omega) (by simp; omega) ?_; intro oa ka2 wa hown hg hnew)
      replace hr := rd_kept (hr.below (below_alloc _ _)) hg (ownBlock_base hT.a hBb) (code_ne hcode hT.a)
      have hT2 := hT.push_a (1 + (u0 : Int)) hown hg hnew
      have hbs : w5.heap.size ≤ wa.heap.size := Nat.le_trans hbs0 (by have := hg.size; simp at this; omega)
      replace hB := below_push hB hB.size hg (fun b hb' => Nat.le_trans (Nat.le_of_lt hBb) (owns_lt hT.a b hb').1)
      clear hT hown hg hnew hbs0
      have hT := hT2
      have hbs0 := hbs
      clear hT2 hbs
      go_wp2_with fail
      refine (pick_c cao ccap cc (4 + 4 * i + 1) w.heap.size 5 _ (by omega) hr).mono ?_
      rintro e wq1 ⟨u1, rfl, hv, hr2, hg⟩
      have hu1 : u1 < 5 := by omega
      replace hT := three_kept hT hg hBb
      replace hB := below_shpicks hB (Nat.le_refl _) hg
      have hbs : w5.heap.size ≤ wq1.heap.size := Nat.le_trans hbs0 hg.size
      clear hv hg hr hbs0
      have hr := hr2
      have hbs0 := hbs
      clear hr2 hbs
      go_wp2_with (at_builtin; refine wpList_push _ rfl _ _ 31 rfl w5.heap.size 3 im (.int .i64 0) 8 Try.underlying31 hmi hmz hm1 hm2 rfl bo _ kb _ rfl (ownsRow_below hT.b (below_alloc _ _)) _ _ _ rfl (cell_new _ _ _) rfl (by unfold maxLen; omega) (by omega) (by simp; omega) ?_; intro ob kb2 wb hown hg hnew)
      replace hr := rd_kept (hr.below (below_alloc _ _)) hg (ownBlock_base hT.b hBb) (code_ne hcode hT.b)
      have hT2 := hT.push_b (1 + (u1 : Int)) hown hg hnew
      have hbs : w5.heap.size ≤ wb.heap.size := Nat.le_trans hbs0 (by have := hg.size; simp at this; omega)
      replace hB := below_push hB hB.size hg (fun b hb' => Nat.le_trans (Nat.le_of_lt hBb) (owns_lt hT.b b hb').1)
      clear hT hown hg hnew hbs0
      have hT := hT2
      have hbs0 := hbs
      clear hT2 hbs
      go_wp2_with fail
      refine (pick_c cao ccap cc (4 + 4 * i + 1 + 1) w.heap.size 30 _ (by omega) hr).mono ?_
      rintro e wq2 ⟨u2, rfl, hv, hr2, hg⟩
      have hu2 : u2 < 30 := by omega
      replace hT := three_kept hT hg hBb
      replace hB := below_shpicks hB (Nat.le_refl _) hg
      have hbs : w5.heap.size ≤ wq2.heap.size := Nat.le_trans hbs0 hg.size
      clear hv hg hr hbs0
      have hr := hr2
      have hbs0 := hbs
      clear hr2 hbs
      go_wp2_with fail
      refine (pick_c cao ccap cc (4 + 4 * i + 1 + 1 + 1) w.heap.size 60 _ (by omega) hr).mono ?_
      rintro e wq3 ⟨u3, rfl, hv, hr2, hg⟩
      have hu3 : u3 < 60 := by omega
      replace hT := three_kept hT hg hBb
      replace hB := below_shpicks hB (Nat.le_refl _) hg
      have hbs : w5.heap.size ≤ wq3.heap.size := Nat.le_trans hbs0 hg.size
      clear hv hg hr hbs0
      have hr := hr2
      have hbs0 := hbs
      clear hr2 hbs
      go_wp2_with (at_builtin; refine wpList_push _ rfl _ _ 31 rfl w5.heap.size 3 im (.int .i64 0) 8 Try.underlying31 hmi hmz hm1 hm2 rfl co _ kc _ rfl (ownsRow_below hT.c (below_alloc _ _)) _ _ _ rfl (cell_new _ _ _) rfl (by unfold maxLen; omega) (by omega) (by simp; omega) ?_; intro oc kc2 wc hown hg hnew)
      replace hr := rd_kept (hr.below (below_alloc _ _)) hg (ownBlock_base hT.c hBb) (code_ne hcode hT.c)
      have hT2 := hT.push_c ((u2 : Int) + (u3 : Int) / 59 * 80) hown hg hnew
      have hbs : w5.heap.size ≤ wc.heap.size := Nat.le_trans hbs0 (by have := hg.size; simp at this; omega)
      replace hB := below_push hB hB.size hg (fun b hb' => Nat.le_trans (Nat.le_of_lt hBb) (owns_lt hT.c b hb').1)
      clear hT hown hg hnew hbs0
      have hT := hT2
      have hbs0 := hbs
      clear hT2 hbs
      go_roundw
      case rel => exact ⟨i + 1, _, _, _, _, _, _, _, _, _, by omega, by go_num, rfl, rfl, rfl, hT, hr.mono (by omega), hbs0, hB⟩
      case measure => simp [intOf]; omega
    · have hli : decide ((i : Int) < (n : Int)) = false := by rw [decide_eq_false_iff_not]; omega
      obtain rfl : i = n := by omega
      go_wp2
      refine bodyPost_ret (v := .tuple #[.int .i64 (1 + (v0 : Int)), .int .i64 (1 + (v1 : Int)), .slice ao i ka, .slice bo i kb, .slice co i kc]) (by simp [results, Try.f25, go_sem]) rfl ⟨_, _, ao, bo, co, ka, kb, kc, i, la, lb, lc, rfl, ⟨hn1, hn5, three_len hT.a, three_len hT.b, three_len hT.c⟩, owns_cells hT.a, owns_cells hT.b, owns_cells hT.c, hB⟩

end Go.Proofs.Ytfemfmkgdgcemaa
