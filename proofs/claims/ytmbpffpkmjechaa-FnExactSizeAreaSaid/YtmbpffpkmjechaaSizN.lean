
/-
  Needs of rooms: what they are in memory, and how they are put in order. (Walks.)
-/
import Derived.Test.YtmbpffpkmjechaaInsM
import Derived.Test.YtmbpffpkmjechaaLong
import Derived.Deep.MidRow
import Derived.Lib.QuietBelow
import Derived.OrdersHeld
namespace Go.Proofs.Ytmbpffpkmjechaa
open Go.RowKit

/-! # needs as cells -/
def ndL (d : Nat → Nat) (L : List Nat) : List Value := (List.range (2 * L.length)).map fun k => .int .i64 (((if k % 2 = 0 then L.getD (k / 2) 0 else d (L.getD (k / 2) 0)) : Nat) : Int)
def ndC (d : Nat → Nat) (L : List Nat) : Array Value := (ndL d L).toArray
def nd1 (d : Nat → Nat) (x : Nat) : Array Value := #[.int .i64 ((x : Nat) : Int), .int .i64 ((d x : Nat) : Int)]
theorem ndL_len (d : Nat → Nat) (L : List Nat) : (ndL d L).length = 2 * L.length := by simp [ndL]
theorem ndC_at {d : Nat → Nat} {L : List Nat} {k : Nat} (hk : k < 2 * L.length) : (ndC d L)[k]? = some (.int .i64 (((if k % 2 = 0 then L.getD (k / 2) 0 else d (L.getD (k / 2) 0)) : Nat) : Int)) := by
  unfold ndC ndL
  rw [List.getElem?_toArray, List.getElem?_map, List.getElem?_range hk]
  rfl
theorem ndC_lo {d : Nat → Nat} {L : List Nat} {i : Nat} (hi : i < L.length) : (ndC d L)[i * 2]? = some (.int .i64 ((L.getD i 0 : Nat) : Int)) := by
  rw [ndC_at (by omega), if_pos (by omega), show i * 2 / 2 = i by omega]
theorem ndC_hi {d : Nat → Nat} {L : List Nat} {i : Nat} (hi : i < L.length) : (ndC d L)[i * 2 + 1]? = some (.int .i64 ((d (L.getD i 0) : Nat) : Int)) := by
  rw [ndC_at (by omega), if_neg (by omega), show (i * 2 + 1) / 2 = i by omega]
theorem ndC_size (d : Nat → Nat) (L : List Nat) : (ndC d L).size = 2 * L.length := by unfold ndC; rw [List.size_toArray, ndL_len]
theorem ndC_put {d : Nat → Nat} {L : List Nat} {i : Nat} (hi : i < L.length) (x : Nat) : ((ndC d L).setIfInBounds (i * 2) (.int .i64 ((x : Nat) : Int))).setIfInBounds (i * 2 + 1) (.int .i64 ((d x : Nat) : Int)) = ndC d (L.set i x) := by
  apply Array.ext_getElem?
  intro k
  rw [Array.getElem?_setIfInBounds, Array.getElem?_setIfInBounds, Array.size_setIfInBounds, ndC_size]
  by_cases h2 : k < 2 * L.length
  · rw [ndC_at (L := L.set i x) (by rw [List.length_set]; exact h2), getD_set L i (k / 2) x hi]
    by_cases e1 : i * 2 + 1 = k
    · rw [if_pos e1, if_pos (by omega), if_neg (by omega), if_pos (by omega)]
    · rw [if_neg e1]
      by_cases e2 : i * 2 = k
      · rw [if_pos e2, if_pos (by omega), if_pos (by omega), if_pos (by omega)]
      · rw [if_neg e2, ndC_at h2, if_neg (show ¬ k / 2 = i by omega)]
  · rw [if_neg (by omega), if_neg (by omega), Array.getElem?_eq_none (by rw [ndC_size]; omega), Array.getElem?_eq_none (by rw [ndC_size, List.length_set]; omega)]
/-- needs ahead of what else a block holds -/
def ndX (d : Nat → Nat) (X : Array Value) (L : List Nat) : Array Value := ndC d L ++ X
theorem ndX_at {d : Nat → Nat} {X : Array Value} {L : List Nat} {k : Nat} (hk : k < 2 * L.length) : (ndX d X L)[k]? = (ndC d L)[k]? := by
  unfold ndX; rw [Array.getElem?_append_left (by rw [ndC_size]; exact hk)]
theorem ndX_lo {d : Nat → Nat} {X : Array Value} {L : List Nat} {i : Nat} (hi : i < L.length) : (ndX d X L)[i * 2]? = some (.int .i64 ((L.getD i 0 : Nat) : Int)) := by rw [ndX_at (by omega), ndC_lo hi]
theorem ndX_hi {d : Nat → Nat} {X : Array Value} {L : List Nat} {i : Nat} (hi : i < L.length) : (ndX d X L)[i * 2 + 1]? = some (.int .i64 ((d (L.getD i 0) : Nat) : Int)) := by rw [ndX_at (by omega), ndC_hi hi]
theorem app_set {A X : Array Value} {k : Nat} (hk : k < A.size) (u : Value) : (A ++ X).setIfInBounds k u = A.setIfInBounds k u ++ X := by
  apply Array.toList_inj.1
  rw [Array.toList_setIfInBounds, Array.toList_append, Array.toList_append, Array.toList_setIfInBounds, List.set_append_left _ _ (by rw [Array.length_toList]; exact hk)]
theorem ndX_put {d : Nat → Nat} {X : Array Value} {L : List Nat} {i : Nat} (hi : i < L.length) (x : Nat) : ((ndX d X L).setIfInBounds (i * 2) (.int .i64 ((x : Nat) : Int))).setIfInBounds (i * 2 + 1) (.int .i64 ((d x : Nat) : Int)) = ndX d X (L.set i x) := by
  unfold ndX
  rw [app_set (by rw [ndC_size]; omega), app_set (by rw [Array.size_setIfInBounds, ndC_size]; omega), ndC_put hi]
theorem nd_range {W : World} {g : Nat} {t : TypeId} {d : Nat → Nat} {X : Array Value} {L : List Nat} {i : Nat} (h : HeldB W g t (ndX d X L)) (hi : i < L.length) : W.rangeAt g (i * 2) (nd1 d (L.getD i 0)).toList := fun j v hv => by
  rcases j with _ | _ | j
  · rw [Nat.add_zero, h.cell, ndX_lo hi]; exact hv
  · rw [h.cell, ndX_hi hi]; exact hv
  · simp [nd1] at hv
theorem nd_there {W : World} {g : Nat} {t : TypeId} {d : Nat → Nat} {X : Array Value} {L : List Nat} {i : Nat} (h : HeldB W g t (ndX d X L)) (hi : i < L.length) : W.there g (i * 2) 2 := fun j hj => by
  refine ⟨?_, h.frozen _⟩
  rw [h.cell, ndX_at (by omega), ndC_at (by omega)]; rfl
theorem nd_put {W : World} {g : Nat} {t : TypeId} {d : Nat → Nat} {X : Array Value} {L : List Nat} {i : Nat} (h : HeldB W g t (ndX d X L)) (hi : i < L.length) (x : Nat) : HeldB (W.setCells g (i * 2) (nd1 d x).toList) g t (ndX d X (L.set i x)) := by
  rw [← ndX_put hi]
  exact (h.set (i * 2) _).set (i * 2 + 1) _
theorem ndX_cells {W : World} {g : Nat} {t : TypeId} {d : Nat → Nat} {X : Array Value} {L : List Nat} (h : HeldB W g t (ndX d X L)) : CellsAt W (some ⟨g, 0, none⟩) (ndL d L) := fun i u hu => by
  refine ⟨g, 0, rfl, ?_⟩
  have hi : i < 2 * L.length := by rw [← ndL_len d L]; exact (List.getElem?_eq_some_iff.1 hu).1
  rw [Nat.zero_add, h.cell, ndX_at hi]
  unfold ndC
  rw [List.getElem?_toArray]; exact hu
theorem owns_ndX {w : World} {base : Nat} {ao : Option Addr} {n cap : Nat} {d : Nat → Nat} {L : List Nat} (h : w.ownsRow base 66 2 (.slice ao n cap) n (ndL d L)) (hn : 1 ≤ n) : ∃ g X, ao = some ⟨g, 0, none⟩ ∧ base ≤ g ∧ n ≤ cap ∧ HeldB w g 66 (ndX d X L) := by
  rcases h.2 with ⟨hv, h0⟩ | ⟨g, cap', cur, hv, hb, hg, h1, h2, h3, h4⟩
  · omega
  · simp only [Value.slice.injEq, true_and] at hv
    obtain ⟨rfl, rfl⟩ := hv
    refine ⟨g, (cur.toList.drop (n * 2)).toArray, rfl, hb, h1, ?_⟩
    have he : ndX d (cur.toList.drop (n * 2)).toArray L = cur := by
      unfold ndX ndC
      rw [← h4]
      simp
    rw [he]
    exact hg
theorem nd_cells_range {W : World} {g : Nat} {d : Nat → Nat} {L : List Nat} {i : Nat} (h : CellsAt W (some ⟨g, 0, none⟩) (ndL d L)) (hi : i < L.length) : W.rangeAt g (i * 2) (nd1 d (L.getD i 0)).toList := fun j v hv => by
  have key : ∀ k u, (ndC d L)[k]? = some u → W.cell? ⟨g, k, none⟩ = some u := fun k u hu => by
    unfold ndC at hu
    rw [List.getElem?_toArray] at hu
    obtain ⟨b, off, e, hc⟩ := h k u hu
    cases e
    rwa [Nat.zero_add] at hc
  rcases j with _ | _ | j
  · rw [Nat.add_zero]; exact key _ _ ((ndC_lo hi).trans hv)
  · exact key _ _ ((ndC_hi hi).trans hv)
  · simp [nd1] at hv
theorem nd_grown (w : World) (g i : Nat) (d : Nat → Nat) (x : Nat) : w.grownBy (w.setCells g (i * 2) (nd1 d x).toList) (some g) :=
  grownBy_trans (gbCell w g (i * 2) _) (gbCell _ g (i * 2 + 1) _)
theorem nd_one (d : Nat → Nat) (x : Nat) : (nd1 d x).all (·.oneCell') = true := Array.all_eq_true_iff_forall_mem.2 fun v hv => by
  simp only [nd1, List.mem_toArray, List.mem_cons, List.not_mem_nil, or_false] at hv
  rcases hv with rfl | rfl <;> rfl
theorem Try.sizeNd : (Try.prog.info? 66).map (·.size) = some 2 := by kernel_rfl

/-! # a drawing -/
def dwC (O : Array Value) (way : Int) (v : Value) : Array Value := O ++ #[.int .i64 way, v]
theorem dwC_size {O : Array Value} (h : O.size = 201) (way : Int) (v : Value) : (dwC O way v).size = 203 := by simp [dwC, h]
theorem dwC_lo {O : Array Value} {k : Nat} (hk : k < O.size) (way : Int) (v : Value) : (dwC O way v)[k]? = O[k]? := by
  unfold dwC; rw [Array.getElem?_append_left hk]
theorem dwC_way {O : Array Value} (h : O.size = 201) (way : Int) (v : Value) : (dwC O way v)[201]? = some (.int .i64 way) := by
  unfold dwC; rw [Array.getElem?_append_right (by omega), h]; rfl
theorem dwC_needs {O : Array Value} (h : O.size = 201) (way : Int) (v : Value) : (dwC O way v)[202]? = some v := by
  unfold dwC; rw [Array.getElem?_append_right (by omega), h]; rfl
theorem dw_order {W : World} {B : Nat} {t : TypeId} {O : Array Value} {way : Int} {v : Value} (h : HeldB W B t (dwC O way v)) : W.rangeAt B 0 O.toList := fun j x hx => by
  rw [Nat.zero_add, h.cell, dwC_lo (by rw [← Array.length_toList]; exact (List.getElem?_eq_some_iff.1 hx).1), ← Array.getElem?_toList]; exact hx
theorem dw_info {O : Array Value} (h : O.size = 201) (way : Int) (v : Value) : (Try.prog.info? 49).map (·.size) = some (dwC O way v).size := by rw [dwC_size h]; kernel_rfl
theorem or_info {O : Array Value} (h : O.size = 201) : (Try.prog.info? 46).map (·.size) = some O.toList.length := by rw [Array.length_toList, h]; kernel_rfl

/-! # which of two needs is put ahead -/
def cmpQ (q : Nat → Nat → Bool) (a b : Nat) : Int := if q a b = true then -1 else if q b a = true then 1 else 0
set_option maxRecDepth 100000 in
set_option maxHeartbeats 4000000 in
theorem forward_any {C : Array Value} (hC : C.size = 39) (F : Nat → Nat → Nat → Bool) (way : Int) (v : Value) (d : Nat → Nat) (a b : Nat) (w : World) (ha : a < 9) (hb : b < 9) :
    Calls Try.prog 32 #[.agg (dwC (ordC C F) way v), .agg (nd1 d a), .agg (nd1 d b)] w fun e w' => e = .returned (.int .i64 (cmpQ (firstQ F) a b)) ∧ Below w.heap.size w w' := by
  have hO := ordC_size hC F
  have HIF := Lib.hid (fun (w : World) => isFirst_any hC F a b w ha hb)
  have HIB := Lib.hid (fun (w : World) => isFirst_any hC F b a w hb ha)
  have hc : cmpQ (firstQ F) a b = if firstQ F a b = true then -1 else if firstQ F b a = true then 1 else 0 := rfl
  rw [hc]
  clear hc
  generalize firstQ F a b = x at *
  generalize firstQ F b a = y at *
  have b1 := HeldB.new w 49 (dwC (ordC C F) way v)
  have b2 := (b1.alloc (.cells (nd1 d a) 66)).alloc (.cells (nd1 d b) 66)
  have hr := dw_order b2
  have HOI := Lib.hid (or_info hO)
  have hB0 : Below w.heap.size w (((w.alloc (.cells (dwC (ordC C F) way v) 49)).alloc (.cells (nd1 d a) 66)).alloc (.cells (nd1 d b) 66)) := (((Below.refl _ w).alloc (Nat.le_refl _) _).alloc (by simp) _).alloc (by simp; omega) _
  have c2 := (HeldB.new ((w.alloc (.cells (dwC (ordC C F) way v) 49)).alloc (.cells (nd1 d a) 66)) 66 (nd1 d b)).cell 0
  have c1 := ((HeldB.new (w.alloc (.cells (dwC (ordC C F) way v) 49)) 66 (nd1 d a)).alloc (.cells (nd1 d b) 66)).cell 0
  rw [show (nd1 d b)[0]? = some (.int .i64 ((b : Nat) : Int)) from rfl] at c2
  rw [show (nd1 d a)[0]? = some (.int .i64 ((a : Nat) : Int)) from rfl] at c1
  simp only [World.size_alloc] at c1 c2
  have HC1 := Lib.hid c1; have HC2 := Lib.hid c2
  clear b1 b2 c1 c2
  unfold nd1 at hr hB0 HC1 HC2 ⊢
  generalize dwC (ordC C F) way v = D at *
  generalize hOO : ordC C F = O at *
  clear hOO hO
  have HR := Lib.hid hr; have HB := Lib.hid hB0
  clear hr hB0
  cases x
  · cases y
    · go_enter Try.func32, Try.ntmps32
      go_wp2_with (first
        | (refine wpList_load_mid rfl 46 _ rfl w.heap.size 0 rfl O.toList _ HR.out Try.underlying46 rfl HOI.out ?_)
        | (go_at_call 44; refine (HIF.out _).mono ?_; rintro e w1 ⟨rfl, hb1⟩; have k1 := cell_below HC1.out hb1; have k2 := cell_below HC2.out hb1; clear HIF)
        | (refine wpList_load_mid rfl 46 _ rfl w.heap.size 0 rfl O.toList _ (range_below HR.out hb1) Try.underlying46 rfl HOI.out ?_)
        | (go_at_call 44; refine (HIB.out _).mono ?_; rintro e w2 ⟨rfl, hb2⟩))
      go_ret
      exact ⟨by simp, below_step (below_step HB.out HB.out.size hb1) (below_step HB.out HB.out.size hb1).size hb2⟩
    · go_enter Try.func32, Try.ntmps32
      go_wp2_with (first
        | (refine wpList_load_mid rfl 46 _ rfl w.heap.size 0 rfl O.toList _ HR.out Try.underlying46 rfl HOI.out ?_)
        | (go_at_call 44; refine (HIF.out _).mono ?_; rintro e w1 ⟨rfl, hb1⟩; have k1 := cell_below HC1.out hb1; have k2 := cell_below HC2.out hb1; clear HIF)
        | (refine wpList_load_mid rfl 46 _ rfl w.heap.size 0 rfl O.toList _ (range_below HR.out hb1) Try.underlying46 rfl HOI.out ?_)
        | (go_at_call 44; refine (HIB.out _).mono ?_; rintro e w2 ⟨rfl, hb2⟩))
      go_ret
      exact ⟨by simp, below_step (below_step HB.out HB.out.size hb1) (below_step HB.out HB.out.size hb1).size hb2⟩
  · go_enter Try.func32, Try.ntmps32
    go_wp2_with (first
      | (refine wpList_load_mid rfl 46 _ rfl w.heap.size 0 rfl O.toList _ HR.out Try.underlying46 rfl HOI.out ?_)
      | (go_at_call 44; refine (HIF.out _).mono ?_; rintro e w1 ⟨rfl, hb1⟩; have k1 := cell_below HC1.out hb1; have k2 := cell_below HC2.out hb1; clear HIF)
      | (refine wpList_load_mid rfl 46 _ rfl w.heap.size 0 rfl O.toList _ (range_below HR.out hb1) Try.underlying46 rfl HOI.out ?_)
      | (go_at_call 44; refine (HIB.out _).mono ?_; rintro e w2 ⟨rfl, hb2⟩))
    go_ret
    exact ⟨by simp, below_step HB.out HB.out.size hb1⟩

end Go.Proofs.Ytmbpffpkmjechaa
