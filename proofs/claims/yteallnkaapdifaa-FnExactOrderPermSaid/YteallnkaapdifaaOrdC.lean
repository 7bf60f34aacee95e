
/-
  The permutation of an order: what it is, and the program's. (Plain mathematics, and walks.)
-/
import Derived.Test.YteallnkaapdifaaOrdZ
namespace Go.Proofs.Yteallnkaapdifaa
open Go.RowKit

/-- a question that puts the first numbers into a line -/
structure Lin (q : Nat → Nat → Bool) (r : Nat) : Prop where
  irr : ∀ a, a < r → q a a = false
  all : ∀ a b, a < r → b < r → a ≠ b → q a b = true ∨ q b a = true
  trans : ∀ a b c, a < r → b < r → c < r → q a b = true → q b c = true → q a c = true
theorem cnt_le {p p' : Nat → Bool} : ∀ n, (∀ x, x < n → p x = true → p' x = true) → (List.range n).countP p ≤ (List.range n).countP p'
  | 0, _ => Nat.le_refl _
  | n + 1, h => by
    have ih := cnt_le n (fun x hx => h x (by omega))
    have hn := h n (by omega)
    rw [List.range_succ, List.countP_append, List.countP_append, List.countP_singleton, List.countP_singleton]
    cases hp : p n
    · simp; omega
    · rw [hn hp]; simp; omega
theorem cnt_lt {p p' : Nat → Bool} {a : Nat} (ha2 : p' a = true) (ha1 : p a = false) : ∀ n, a < n → (∀ x, x < n → p x = true → p' x = true) → (List.range n).countP p < (List.range n).countP p'
  | 0, ha, _ => by omega
  | n + 1, ha, h => by
    have hn := h n (by omega)
    have hle := cnt_le (p := p) (p' := p') n (fun x hx => h x (by omega))
    rw [List.range_succ, List.countP_append, List.countP_append, List.countP_singleton, List.countP_singleton]
    by_cases hna : a = n
    · subst hna; rw [ha1, ha2]; simp; omega
    · have ih := cnt_lt ha2 ha1 n (by omega) (fun x hx => h x (by omega))
      cases hp : p n
      · simp; omega
      · rw [hn hp]; simp; omega
theorem Lin.mono {q : Nat → Nat → Bool} {r a b : Nat} (L : Lin q r) (ha : a < r) (hb : b < r) (h : q a b = true) : placeN q r a < placeN q r b :=
  cnt_lt (p := fun x => q x a) (p' := fun x => q x b) (a := a) h (L.irr a ha) r ha (fun x hx hxa => L.trans x a b hx ha hb hxa h)
theorem Lin.inj {q : Nat → Nat → Bool} {r a b : Nat} (L : Lin q r) (ha : a < r) (hb : b < r) (h : placeN q r a = placeN q r b) : a = b := by
  rcases Nat.decEq a b with hne | he
  · rcases L.all a b ha hb hne with h1 | h1
    · have := L.mono ha hb h1; omega
    · have := L.mono hb ha h1; omega
  · exact he
theorem Lin.lt {q : Nat → Nat → Bool} {r a : Nat} (L : Lin q r) (ha : a < r) : placeN q r a < r := placeN_lt ha (L.irr a ha)
theorem Lin.surj {q : Nat → Nat → Bool} {r k : Nat} (L : Lin q r) (hk : k < r) : ∃ x, x < r ∧ placeN q r x = k := by
  by_cases h : ∃ x, x < r ∧ placeN q r x = k
  · exact h
  · exfalso
    have hn : (k :: (List.range r).map (placeN q r)).Nodup := by
      rw [List.nodup_cons]
      refine ⟨fun hm => ?_, ?_⟩
      · obtain ⟨x, hx, e⟩ := List.mem_map.1 hm
        exact h ⟨x, List.mem_range.1 hx, e⟩
      · unfold List.Nodup
        rw [List.pairwise_map]
        refine List.Pairwise.imp_of_mem ?_ List.pairwise_lt_range
        intro a b ha hb hab e
        have := L.inj (List.mem_range.1 ha) (List.mem_range.1 hb) e
        omega
    have := nodup_lt r _ hn (fun x hx => by
      rw [List.mem_cons] at hx
      rcases hx with rfl | hx
      · exact hk
      · obtain ⟨y, hy, rfl⟩ := List.mem_map.1 hx
        exact L.lt (List.mem_range.1 hy))
    simp at this
    omega
theorem Lin.line_at {q : Nat → Nat → Bool} {r : Nat} (L : Lin q r) : ∀ k, k ≤ r → ∀ x, x < k → (lineN q r k).getD (placeN q r x) 0 = x
  | 0, _, x, hx => by omega
  | k + 1, hk, x, hx => by
    rw [lineN, getD_set _ _ _ _ (by rw [lineN_len]; exact L.lt (by omega))]
    by_cases he : placeN q r x = placeN q r k
    · rw [if_pos he]; exact (L.inj (by omega) (by omega) he).symm
    · rw [if_neg he]
      refine L.line_at k (by omega) x ?_
      rcases Nat.lt_or_ge x k with h | h
      · exact h
      · obtain rfl : x = k := by omega
        exact absurd rfl he
theorem Lin.line {q : Nat → Nat → Bool} {r x : Nat} (L : Lin q r) (hx : x < r) : (lineN q r r).getD (placeN q r x) 0 = x := L.line_at r (Nat.le_refl _) x hx
/-- the room at a place has that place -/
theorem Lin.back {q : Nat → Nat → Bool} {r k : Nat} (L : Lin q r) (hk : k < r) : placeN q r ((lineN q r r).getD k 0) = k ∧ (lineN q r r).getD k 0 < r := by
  obtain ⟨x, hx, e⟩ := L.surj hk
  have := L.line hx
  rw [e] at this
  rw [this]
  exact ⟨e, hx⟩

/-- the permutation: the place in one line of each room of the other one -/
def permQ (q1 q2 : Nat → Nat → Bool) (r : Nat) : List Nat := (List.range r).map fun i => placeN q1 r ((lineN q2 r r).getD i 0)
def permK (q1 q2 : Nat → Nat → Bool) (r k : Nat) : List Nat := (List.range r).map fun i => if i < k then placeN q1 r ((lineN q2 r r).getD i 0) else (lineN q2 r r).getD i 0
theorem permQ_len (q1 q2 : Nat → Nat → Bool) (r : Nat) : (permQ q1 q2 r).length = r := by simp [permQ]
theorem permK_len (q1 q2 : Nat → Nat → Bool) (r k : Nat) : (permK q1 q2 r k).length = r := by simp [permK]
theorem permK_at {q1 q2 : Nat → Nat → Bool} {r k i : Nat} (hi : i < r) : (permK q1 q2 r k).getD i 0 = if i < k then placeN q1 r ((lineN q2 r r).getD i 0) else (lineN q2 r r).getD i 0 := by simp [permK, hi]
theorem permK_zero (q1 q2 : Nat → Nat → Bool) (r : Nat) : permK q1 q2 r 0 = lineN q2 r r := by
  apply list_getD_ext (by rw [permK_len, lineN_len])
  intro i hi
  rw [permK_len] at hi
  rw [permK_at hi, if_neg (by omega)]
theorem permK_all (q1 q2 : Nat → Nat → Bool) (r : Nat) : permK q1 q2 r r = permQ q1 q2 r := by
  unfold permK permQ
  refine List.map_congr_left fun i hi => ?_
  rw [if_pos (List.mem_range.1 hi)]
theorem permK_put {q1 q2 : Nat → Nat → Bool} {r k : Nat} (hk : k < r) : (permK q1 q2 r k).set k (placeN q1 r ((lineN q2 r r).getD k 0)) = permK q1 q2 r (k + 1) := by
  apply list_getD_ext (by rw [List.length_set, permK_len, permK_len])
  intro i hi
  rw [List.length_set, permK_len] at hi
  rw [getD_set _ _ _ _ (by rw [permK_len]; exact hk), permK_at hi, permK_at hi]
  by_cases hik : i = k
  · subst hik; rw [if_pos rfl, if_pos (by omega)]
  · rw [if_neg hik]
    by_cases h : i < k
    · rw [if_pos h, if_pos (by omega)]
    · rw [if_neg h, if_neg (by omega)]

/-- where the permutation lies while it is made -/
def PeSt (w : World) (g1 g2 : Nat) (P S : List Nat) (wr : World) : Prop := HeldB wr g1 3 (setsV P) ∧ HeldB wr g2 3 (setsV S) ∧ Below w.heap.size w wr
theorem PeSt.put {w : World} {g1 g2 : Nat} {P S T : List Nat} {wr : World} (h1 : g1 ≠ g2) (h2 : w.heap.size ≤ g2) (h : PeSt w g1 g2 P S wr) (x m : Nat) (hT : S.set x m = T) : PeSt w g1 g2 P T (wr.setCell ⟨g2, x, none⟩ (.int .i64 (m : Nat))) := by
  subst hT
  exact ⟨h.1.other h1 _, (h.2.1.set x _).eq (setsV_put S x m), h.2.2.setCell (p := ⟨g2, x, none⟩) h2 _⟩

set_option maxRecDepth 100000 in
set_option maxHeartbeats 4000000 in
theorem perm_any (h wd r : Nat) (g : Nat → Nat → Nat) (F : Nat → Nat → Nat → Bool) (w : World) (hr : r ≤ 9) (h2 : ∀ b, b < r → secondQ F b b = false) :
    Calls Try.prog 45 #[.agg (ordC (planC h wd r g) F)] w
      fun e w' => PlRet w.heap.size (permQ (firstQ F) (secondQ F) r) e w' ∧ Below w.heap.size w w' := by
  have HPA := Lib.hid (fun w => placesFirst_any h wd r g F w hr)
  have HLI := Lib.hid (fun w => lineSecond_any h wd r g F w hr h2)
  have HDI := Lib.hid (ord_info (planC_size h wd r g) F)
  have HLT := Lib.hid (fun i (hi : i < r) => lineN_lt (secondQ F) r r (Nat.le_refl _) i hi)
  have HAT := Lib.hid (fun b (hb : b < r) => placesN_at (q := firstQ F) (r := r) hb)
  have HPL := Lib.hid (show (placesN (firstQ F) r).length = r from placeL_len _ _ _ _)
  have HLE := Lib.hid (fun k => permK_len (firstQ F) (secondQ F) r k)
  have HL0 := Lib.hid (permK_zero (firstQ F) (secondQ F) r)
  have HLA := Lib.hid (permK_all (firstQ F) (secondQ F) r)
  have HLS := Lib.hid (fun k (hk : k < r) => permK_put (q1 := firstQ F) (q2 := secondQ F) hk)
  have HKA := Lib.hid (fun k (hk : k < r) => show (permK (firstQ F) (secondQ F) r k).getD k 0 = (lineN (secondQ F) r r).getD k 0 by rw [permK_at hk, if_neg (by omega)])
  have HLL := Lib.hid (lineN_len (secondQ F) r r)
  clear h2
  generalize firstQ F = q at *
  generalize secondQ F = q2 at *
  generalize ordC (planC h wd r g) F = D at *
  have hB0 := HeldB.new w 46 D
  go_enter Try.func45, Try.ntmps45
  go_wp2_with (first
    | (refine wpList_load_row rfl 46 _ rfl w.heap.size rfl 46 D (0, 0) _ hB3 Try.underlying46 rfl HDI.out ?_)
    | (refine wpList_load_row rfl 46 _ rfl w.heap.size rfl 46 D (0, 0) _ hB0 Try.underlying46 rfl HDI.out ?_)
    | (go_at_call 57; refine (HPA.out _).mono ?_; rintro e w3 ⟨⟨g1, hg1, rfl, hP⟩, hb3⟩; have hB3 := hB0.below hb3)
    | (go_at_call 40; refine (HLI.out _).mono ?_; rintro e w4 ⟨⟨g2, hg2, rfl, hL⟩, hb4⟩))
  have l1 := hP.lt
  have hs3 := hb3.size
  simp only [World.size_alloc] at hs3 hg1
  have n12 : g1 ≠ g2 := by omega
  have n0 : w.heap.size ≤ g2 := by omega
  have st3 : PeSt w g1 g2 (placesN q r) (permK q q2 r 0) w4 := ⟨hP.below hb4, by rw [HL0.out]; exact hL, below_step ((below_alloc w (.cells D 46)).trans (hb3.mono (by simp))) (by omega) hb4⟩
  rw [HPL.out, HLL.out]
  clear hB3 hB0 hP hb3 hL hb4 l1 hs3 hg1 hg2 HPA HLI
  go_loopw [17] (fun v wr => ∃ k : Nat, k ≤ r ∧ v = .int .i64 k ∧ PeSt w g1 g2 (placesN q r) (permK q q2 r k) wr) (fun v _ => r - (intOf v).toNat)
  case atStart => exact ⟨0, Nat.zero_le _, rfl, st3⟩
  case round =>
    clear st3
    obtain ⟨k, hk, rfl, hst⟩ := hrel
    by_cases hkr : k < r
    · have hll := HLE.out k
      have k1 : wr.cell? ⟨g2, k, none⟩ = some (.int .i64 ((permK q q2 r k).getD k 0 : Nat)) := (hst.2.1.cell k).trans (setsV_at (by rw [hll]; exact hkr))
      rw [HKA.out k hkr] at k1
      have hlt := HLT.out k hkr
      have hst2 := hst.put n12 n0 k _ (HLS.out k hkr)
      have f1 := hst.2.1.frozen k
      generalize (lineN q2 r r).getD k 0 = x at *
      have k2 : wr.cell? ⟨g1, x, none⟩ = some (.int .i64 ((placesN q r).getD x 0 : Nat)) := (hst.1.cell x).trans (setsV_at (by rw [HPL.out]; exact hlt))
      rw [HAT.out x hlt] at k2
      have hkri : (k : Int) < (r : Int) := by omega
      have hlti : (x : Int) < (r : Int) := by omega
      generalize placeN q r x = y at *
      clear hst
      go_wp2
      go_roundw
      case rel => exact ⟨k + 1, by omega, by go_num, hst2⟩
      case measure => simp [intOf]; omega
    · obtain rfl : k = r := by omega
      rw [HLA.out] at hst
      have hlen := permQ_len q q2 k
      go_wp2
      go_ret
      exact ⟨⟨g2, n0, by rw [hlen]; rfl, hst.2.1⟩, hst.2.2⟩

def permL (p : List ByteArray) : List Nat := permQ (firstQ (oF p)) (secondQ (oF p)) (oR p)
theorem permL_len (p : List ByteArray) : (permL p).length = oR p := permQ_len _ _ _
theorem permP_any (p : List ByteArray) (w : World) : Calls Try.prog 45 #[.agg (ordP p)] w
      fun e w' => PlRet w.heap.size (permL p) e w' ∧ Below w.heap.size w w' := perm_any (oH p) (oW p) (oR p) (oG p) (oF p) w (oR_le p) (secondQ_irr p)

set_option maxRecDepth 100000 in
set_option maxHeartbeats 1600000 in
theorem implOrderPerm_any (ao : Option Addr) (cap : Nat) (p : List ByteArray) (w : World) (hl : p.length ≤ 1048576) (hs : ∀ s ∈ p, s.size ≤ 1048576) (hc : CellsAt w ao (p.map Value.string)) :
    Calls Try.prog 29 #[.slice ao p.length cap] w fun e w' => NumsRet w.heap.size (intsL (permL p)) (plainB p) e w' ∧ Below w.heap.size w w' := by
  have HZ0 := Lib.hid zero_ordC
  have HZS := Lib.hid (show (ordC zeroC noF).size = 201 from ordC_size (planC_size _ _ _ _) _)
  have HRO := Lib.hid (fun w hc => readOrder_any ao cap p w hl hs hc)
  have HLI := Lib.hid (fun w => permP_any p w)
  have HI := Lib.hid (ordP_info p)
  have HS := Lib.hid (ordP_size p)
  have H1 := Lib.hid (ordP_one p)
  have HL9 := Lib.hid (show (permL p).length ≤ 9 by rw [permL_len]; exact oR_le p)
  generalize permL p = S at *
  generalize ordP p = D at *
  generalize ordC zeroC noF = Z at *
  go_enter Try.func29, Try.ntmps29
  go_wp2_with (first
    | (refine wpList_alloc_zero rfl 46 rfl Z HZ0.out ?_)
    | (refine wpList_store_new rfl 46 _ _ rfl _ Z D rfl rfl rfl HI.out (by rw [HZS.out, HS.out]) H1.out ?_)
    | (refine wpList_load_row rfl 46 _ rfl w1.heap.size rfl 46 D (0, 0) _ (HeldB.new w1 _ _) Try.underlying46 rfl HI.out ?_)
    | (go_at_call 36; refine (HRO.out _ hc).mono ?_; rintro e w1 ⟨rfl, hb1⟩)
    | (go_at_call 45; refine (HLI.out _).mono ?_; rintro e w2 ⟨⟨gp, hgp, rfl, hP⟩, hb2⟩))
  simp only [World.size_alloc] at hgp
  refine bodyPost_ret (v := .tuple #[.slice (some ⟨gp, 0, none⟩) S.length S.length, .bool (plainB p)]) (by simp [results, Try.results29, go_sem]) rfl ⟨nums_of hP (by have := hb1.size; omega) HL9.out, below_step hb1 hb1.size ((below_alloc w1 (.cells D 46)).trans (hb2.mono (by simp)))⟩
end Go.Proofs.Yteallnkaapdifaa
