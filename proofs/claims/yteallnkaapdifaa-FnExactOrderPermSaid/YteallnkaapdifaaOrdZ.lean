
/-
  The line of rooms, and the program's first and second orders. (Walks.)
-/
import Derived.Test.YteallnkaapdifaaOrdY
import Derived.Test.YteallnkaapdifaaOrdX
import Derived.Test.YteallnkaapdifaaNums
namespace Go.Proofs.Yteallnkaapdifaa
open Go.RowKit

/-- where the line lies while it is laid -/
def LiSt (w : World) (gp : Nat) (P S : List Nat) (wr : World) : Prop := HeldB wr (w.heap.size + 1) 3 (setsV S) ∧ HeldB wr gp 3 (setsV P) ∧ Below w.heap.size w wr
theorem LiSt.put {w : World} {gp : Nat} {P S T : List Nat} {wr : World} (hgp : w.heap.size + 1 < gp) (h : LiSt w gp P S wr) (x m : Nat) (hT : S.set x m = T) : LiSt w gp P T (wr.setCell ⟨w.heap.size + 1, x, none⟩ (.int .i64 (m : Nat))) := by
  subst hT
  exact ⟨(h.1.set x _).eq (setsV_put S x m), h.2.1.other (by simp; omega) _, h.2.2.setCell (p := ⟨w.heap.size + 1, x, none⟩) (by simp) _⟩

set_option maxRecDepth 100000 in
set_option maxHeartbeats 4000000 in
theorem lineFirst_any (h wd r : Nat) (g : Nat → Nat → Nat) (F : Nat → Nat → Nat → Bool) (w : World) (hr : r ≤ 9) (hirr : ∀ b, b < r → firstQ F b b = false) :
    Calls Try.prog 40 #[.agg (ordC (planC h wd r g) F), .func (.func 41) #[.agg (ordC (planC h wd r g) F)] #[]] w
      fun e w' => PlRet w.heap.size (lineN (firstQ F) r r) e w' ∧ Below w.heap.size w w' := by
  have HPA := Lib.hid (fun w => placesFirst_any h wd r g F w hr)
  have hD2 : (ordC (planC h wd r g) F)[2]? = some (.int .i64 (r : Nat)) := by rw [ordC_lo F (by rw [planC_size]; omega), planC_2]
  have HDI := Lib.hid (ord_info (planC_size h wd r g) F)
  obtain ⟨im, hmi, hmz, hm1, hm2⟩ := info_parts Try.infoNum
  have HLT := Lib.hid (fun b (hb : b < r) => placeN_lt hb (hirr b hb))
  have HAT := Lib.hid (fun b (hb : b < r) => placesN_at (q := firstQ F) (r := r) hb)
  have HPL := Lib.hid (show (placesN (firstQ F) r).length = r from placeL_len _ _ _ _)
  have HLE := Lib.hid (fun k => lineN_len (firstQ F) r k)
  have HL0 := Lib.hid (show lineN (firstQ F) r 0 = List.replicate r 0 from rfl)
  have HLS := Lib.hid (fun k => show (lineN (firstQ F) r k).set (placeN (firstQ F) r k) k = lineN (firstQ F) r (k + 1) from rfl)
  clear hirr
  generalize firstQ F = q at *
  generalize ordC (planC h wd r g) F = D at *
  have hB0 := HeldB.new w 46 D
  have c2 : (w.alloc (.cells D 46)).cell? ⟨w.heap.size, 2, none⟩ = some (.int .i64 (r : Nat)) := (hB0.cell 2).trans hD2
  clear hD2
  go_enter Try.func40, Try.ntmps40
  go_wp2_with (first
    | (at_make; refine wpList_make_full _ rfl _ _ 29 rfl w.heap.size 3 im (.int .i64 0) 1 Try.underlying29 hmi hmz hm1 .i64 .i64 _ _ r rfl rfl rfl rfl ?d2 ?d3 (by simp) ?_; rotate_left 2; intro w2 ho2 hg2; have hb2 : Below (w.alloc (.cells D 46)).heap.size (w.alloc (.cells D 46)) w2 := below_of_grownBy hg2 (Nat.le_refl _) (fun k hk => by cases hk); have hz := held_zeros ho2; rw [World.size_alloc] at hz; have hB2 := hB0.below hb2)
    | (refine wpList_load_row rfl 46 _ rfl w.heap.size rfl 46 D (0, 0) _ hB2 Try.underlying46 rfl HDI.out ?_)
    | (go_at_call 57; refine (HPA.out _).mono ?_; rintro e w3 ⟨⟨gp, hgp, rfl, hP⟩, hb3⟩))
  case d2 => rw [hm2]; omega
  case d3 => unfold maxLen; omega
  have hs2 := hz.lt
  have hgp2 : w.heap.size + 1 < gp := by omega
  have st3 : LiSt w gp (placesN q r) (lineN q r 0) w3 := ⟨by rw [HL0.out]; exact hz.below hb3, hP, below_step ((below_alloc w (.cells D 46)).trans (hb2.mono (by simp))) (by omega) hb3⟩
  rw [HPL.out]
  clear hz hB2 hb2 ho2 hg2 hB0 c2 hs2 hP hb3 hgp HPA
  go_loopw [16] (fun v wr => ∃ k : Nat, k ≤ r ∧ v = .int .i64 k ∧ LiSt w gp (placesN q r) (lineN q r k) wr) (fun v _ => r - (intOf v).toNat)
  case atStart => exact ⟨0, Nat.zero_le _, rfl, st3⟩
  case round =>
    clear st3
    obtain ⟨k, hk, rfl, hst⟩ := hrel
    by_cases hkr : k < r
    · have hpk := HAT.out k hkr
      have hlt := HLT.out k hkr
      have hkl : k < (placesN q r).length := by rw [HPL.out]; exact hkr
      have k1 : wr.cell? ⟨gp, k, none⟩ = some (.int .i64 ((placesN q r).getD k 0 : Nat)) := (hst.2.1.cell k).trans (setsV_at hkl)
      rw [hpk] at k1
      have hll := HLE.out k
      have hst2 := hst.put hgp2 (placeN q r k) k (HLS.out k)
      have f1 := hst.1.frozen (placeN q r k)
      have k2 : wr.cell? ⟨w.heap.size + 1, placeN q r k, none⟩ = some (.int .i64 ((lineN q r k).getD (placeN q r k) 0 : Nat)) := (hst.1.cell _).trans (setsV_at (by rw [hll]; exact hlt))
      have hkri : (k : Int) < (r : Int) := by omega
      have hlti : ((placeN q r k : Nat) : Int) < (r : Int) := by omega
      generalize (lineN q r k).getD (placeN q r k) 0 = z at *
      generalize placeN q r k = y at *
      clear hst
      go_wp2
      go_roundw
      case rel => exact ⟨k + 1, by omega, by go_num, hst2⟩
      case measure => simp [intOf]; omega
    · obtain rfl : k = r := by omega
      have hlen := HLE.out k
      go_wp2
      go_ret
      exact ⟨⟨w.heap.size + 1, by omega, by rw [hlen]; rfl, hst.1⟩, hst.2.2⟩

set_option maxRecDepth 100000 in
set_option maxHeartbeats 4000000 in
theorem lineSecond_any (h wd r : Nat) (g : Nat → Nat → Nat) (F : Nat → Nat → Nat → Bool) (w : World) (hr : r ≤ 9) (hirr : ∀ b, b < r → secondQ F b b = false) :
    Calls Try.prog 40 #[.agg (ordC (planC h wd r g) F), .func (.func 43) #[.agg (ordC (planC h wd r g) F)] #[]] w
      fun e w' => PlRet w.heap.size (lineN (secondQ F) r r) e w' ∧ Below w.heap.size w w' := by
  have HPA := Lib.hid (fun w => placesSecond_any h wd r g F w hr)
  have hD2 : (ordC (planC h wd r g) F)[2]? = some (.int .i64 (r : Nat)) := by rw [ordC_lo F (by rw [planC_size]; omega), planC_2]
  have HDI := Lib.hid (ord_info (planC_size h wd r g) F)
  obtain ⟨im, hmi, hmz, hm1, hm2⟩ := info_parts Try.infoNum
  have HLT := Lib.hid (fun b (hb : b < r) => placeN_lt hb (hirr b hb))
  have HAT := Lib.hid (fun b (hb : b < r) => placesN_at (q := secondQ F) (r := r) hb)
  have HPL := Lib.hid (show (placesN (secondQ F) r).length = r from placeL_len _ _ _ _)
  have HLE := Lib.hid (fun k => lineN_len (secondQ F) r k)
  have HL0 := Lib.hid (show lineN (secondQ F) r 0 = List.replicate r 0 from rfl)
  have HLS := Lib.hid (fun k => show (lineN (secondQ F) r k).set (placeN (secondQ F) r k) k = lineN (secondQ F) r (k + 1) from rfl)
  clear hirr
  generalize secondQ F = q at *
  generalize ordC (planC h wd r g) F = D at *
  have hB0 := HeldB.new w 46 D
  have c2 : (w.alloc (.cells D 46)).cell? ⟨w.heap.size, 2, none⟩ = some (.int .i64 (r : Nat)) := (hB0.cell 2).trans hD2
  clear hD2
  go_enter Try.func40, Try.ntmps40
  go_wp2_with (first
    | (at_make; refine wpList_make_full _ rfl _ _ 29 rfl w.heap.size 3 im (.int .i64 0) 1 Try.underlying29 hmi hmz hm1 .i64 .i64 _ _ r rfl rfl rfl rfl ?d2 ?d3 (by simp) ?_; rotate_left 2; intro w2 ho2 hg2; have hb2 : Below (w.alloc (.cells D 46)).heap.size (w.alloc (.cells D 46)) w2 := below_of_grownBy hg2 (Nat.le_refl _) (fun k hk => by cases hk); have hz := held_zeros ho2; rw [World.size_alloc] at hz; have hB2 := hB0.below hb2)
    | (refine wpList_load_row rfl 46 _ rfl w.heap.size rfl 46 D (0, 0) _ hB2 Try.underlying46 rfl HDI.out ?_)
    | (go_at_call 57; refine (HPA.out _).mono ?_; rintro e w3 ⟨⟨gp, hgp, rfl, hP⟩, hb3⟩))
  case d2 => rw [hm2]; omega
  case d3 => unfold maxLen; omega
  have hs2 := hz.lt
  have hgp2 : w.heap.size + 1 < gp := by omega
  have st3 : LiSt w gp (placesN q r) (lineN q r 0) w3 := ⟨by rw [HL0.out]; exact hz.below hb3, hP, below_step ((below_alloc w (.cells D 46)).trans (hb2.mono (by simp))) (by omega) hb3⟩
  rw [HPL.out]
  clear hz hB2 hb2 ho2 hg2 hB0 c2 hs2 hP hb3 hgp HPA
  go_loopw [16] (fun v wr => ∃ k : Nat, k ≤ r ∧ v = .int .i64 k ∧ LiSt w gp (placesN q r) (lineN q r k) wr) (fun v _ => r - (intOf v).toNat)
  case atStart => exact ⟨0, Nat.zero_le _, rfl, st3⟩
  case round =>
    clear st3
    obtain ⟨k, hk, rfl, hst⟩ := hrel
    by_cases hkr : k < r
    · have hpk := HAT.out k hkr
      have hlt := HLT.out k hkr
      have hkl : k < (placesN q r).length := by rw [HPL.out]; exact hkr
      have k1 : wr.cell? ⟨gp, k, none⟩ = some (.int .i64 ((placesN q r).getD k 0 : Nat)) := (hst.2.1.cell k).trans (setsV_at hkl)
      rw [hpk] at k1
      have hll := HLE.out k
      have hst2 := hst.put hgp2 (placeN q r k) k (HLS.out k)
      have f1 := hst.1.frozen (placeN q r k)
      have k2 : wr.cell? ⟨w.heap.size + 1, placeN q r k, none⟩ = some (.int .i64 ((lineN q r k).getD (placeN q r k) 0 : Nat)) := (hst.1.cell _).trans (setsV_at (by rw [hll]; exact hlt))
      have hkri : (k : Int) < (r : Int) := by omega
      have hlti : ((placeN q r k : Nat) : Int) < (r : Int) := by omega
      generalize (lineN q r k).getD (placeN q r k) 0 = z at *
      generalize placeN q r k = y at *
      clear hst
      go_wp2
      go_roundw
      case rel => exact ⟨k + 1, by omega, by go_num, hst2⟩
      case measure => simp [intOf]; omega
    · obtain rfl : k = r := by omega
      have hlen := HLE.out k
      go_wp2
      go_ret
      exact ⟨⟨w.heap.size + 1, by omega, by rw [hlen]; rfl, hst.1⟩, hst.2.2⟩

theorem oF_yes {p : List ByteArray} (h : plainB p = true) : oF p = pL p := by unfold oF; rw [if_pos h]; rfl
theorem firstQ_irr (p : List ByteArray) : ∀ b, b < oR p → firstQ (oF p) b b = false := fun b hb => by
  cases h : plainB p
  · unfold oR at hb; rw [h] at hb; simp at hb
  · have hb2 : b < gridR p := by unfold oR at hb; rwa [if_pos h] at hb
    rw [oF_yes h]; unfold firstQ
    rw [pL_self h hb2 0 (by omega), pL_self h hb2 1 (by omega)]; rfl
theorem secondQ_irr (p : List ByteArray) : ∀ b, b < oR p → secondQ (oF p) b b = false := fun b hb => by
  cases h : plainB p
  · unfold oR at hb; rw [h] at hb; simp at hb
  · have hb2 : b < gridR p := by unfold oR at hb; rwa [if_pos h] at hb
    rw [oF_yes h]; unfold secondQ
    rw [pL_self h hb2 0 (by omega), pL_self h hb2 1 (by omega)]; rfl
/-- whole numbers of naturals -/
def intsL (S : List Nat) : List Int := S.map fun m => ((m : Nat) : Int)
theorem intsL_len (S : List Nat) : (intsL S).length = S.length := by simp [intsL]
theorem nums_of {w : World} {base g : Nat} {S : List Nat} {b : Bool} (h : HeldB w g 3 (setsV S)) (hb : base ≤ g) (hl : S.length ≤ 9) : NumsRet base (intsL S) b (.returned (.tuple #[.slice (some ⟨g, 0, none⟩) S.length S.length, .bool b])) w := by
  have := owns_sets h hb (by unfold maxLen; omega)
  refine ⟨some ⟨g, 0, none⟩, S.length, by rw [intsL_len], ?_⟩
  rw [intsL_len]; exact this
def firstL (p : List ByteArray) : List Nat := lineN (firstQ (oF p)) (oR p) (oR p)
def secondL (p : List ByteArray) : List Nat := lineN (secondQ (oF p)) (oR p) (oR p)
theorem firstL_len (p : List ByteArray) : (firstL p).length = oR p := lineN_len _ _ _
theorem secondL_len (p : List ByteArray) : (secondL p).length = oR p := lineN_len _ _ _
theorem lineFirstP_any (p : List ByteArray) (w : World) : Calls Try.prog 40 #[.agg (ordP p), .func (.func 41) #[.agg (ordP p)] #[]] w
      fun e w' => PlRet w.heap.size (firstL p) e w' ∧ Below w.heap.size w w' := lineFirst_any (oH p) (oW p) (oR p) (oG p) (oF p) w (oR_le p) (firstQ_irr p)
theorem lineSecondP_any (p : List ByteArray) (w : World) : Calls Try.prog 40 #[.agg (ordP p), .func (.func 43) #[.agg (ordP p)] #[]] w
      fun e w' => PlRet w.heap.size (secondL p) e w' ∧ Below w.heap.size w w' := lineSecond_any (oH p) (oW p) (oR p) (oG p) (oF p) w (oR_le p) (secondQ_irr p)

set_option maxRecDepth 100000 in
set_option maxHeartbeats 1600000 in
theorem implOrderFirst_any (ao : Option Addr) (cap : Nat) (p : List ByteArray) (w : World) (hl : p.length ≤ 1048576) (hs : ∀ s ∈ p, s.size ≤ 1048576) (hc : CellsAt w ao (p.map Value.string)) :
    Calls Try.prog 21 #[.slice ao p.length cap] w fun e w' => NumsRet w.heap.size (intsL (firstL p)) (plainB p) e w' ∧ Below w.heap.size w w' := by
  have HZ0 := Lib.hid zero_ordC
  have HZS := Lib.hid (show (ordC zeroC noF).size = 201 from ordC_size (planC_size _ _ _ _) _)
  have HRO := Lib.hid (fun w hc => readOrder_any ao cap p w hl hs hc)
  have HLI := Lib.hid (fun w => lineFirstP_any p w)
  have HI := Lib.hid (ordP_info p)
  have HS := Lib.hid (ordP_size p)
  have H1 := Lib.hid (ordP_one p)
  have HL9 := Lib.hid (show (firstL p).length ≤ 9 by rw [firstL_len]; exact oR_le p)
  generalize firstL p = S at *
  generalize ordP p = D at *
  generalize ordC zeroC noF = Z at *
  go_enter Try.func21, Try.ntmps21
  go_wp2_with (first
    | (refine wpList_alloc_zero rfl 46 rfl Z HZ0.out ?_)
    | (refine wpList_store_new rfl 46 _ _ rfl _ Z D rfl rfl rfl HI.out (by rw [HZS.out, HS.out]) H1.out ?_)
    | (refine wpList_load_row rfl 46 _ rfl w1.heap.size rfl 46 D (0, 0) _ (HeldB.new w1 _ _) Try.underlying46 rfl HI.out ?_)
    | (go_at_call 36; refine (HRO.out _ hc).mono ?_; rintro e w1 ⟨rfl, hb1⟩)
    | (go_at_call 40; refine (HLI.out _).mono ?_; rintro e w2 ⟨⟨gp, hgp, rfl, hP⟩, hb2⟩))
  simp only [World.size_alloc] at hgp
  refine bodyPost_ret (v := .tuple #[.slice (some ⟨gp, 0, none⟩) S.length S.length, .bool (plainB p)]) (by simp [results, Try.results21, go_sem]) rfl ⟨nums_of hP (by have := hb1.size; omega) HL9.out, below_step hb1 hb1.size ((below_alloc w1 (.cells D 46)).trans (hb2.mono (by simp)))⟩

set_option maxRecDepth 100000 in
set_option maxHeartbeats 1600000 in
theorem implOrderSecond_any (ao : Option Addr) (cap : Nat) (p : List ByteArray) (w : World) (hl : p.length ≤ 1048576) (hs : ∀ s ∈ p, s.size ≤ 1048576) (hc : CellsAt w ao (p.map Value.string)) :
    Calls Try.prog 27 #[.slice ao p.length cap] w fun e w' => NumsRet w.heap.size (intsL (secondL p)) (plainB p) e w' ∧ Below w.heap.size w w' := by
  have HZ0 := Lib.hid zero_ordC
  have HZS := Lib.hid (show (ordC zeroC noF).size = 201 from ordC_size (planC_size _ _ _ _) _)
  have HRO := Lib.hid (fun w hc => readOrder_any ao cap p w hl hs hc)
  have HLI := Lib.hid (fun w => lineSecondP_any p w)
  have HI := Lib.hid (ordP_info p)
  have HS := Lib.hid (ordP_size p)
  have H1 := Lib.hid (ordP_one p)
  have HL9 := Lib.hid (show (secondL p).length ≤ 9 by rw [secondL_len]; exact oR_le p)
  generalize secondL p = S at *
  generalize ordP p = D at *
  generalize ordC zeroC noF = Z at *
  go_enter Try.func27, Try.ntmps27
  go_wp2_with (first
    | (refine wpList_alloc_zero rfl 46 rfl Z HZ0.out ?_)
    | (refine wpList_store_new rfl 46 _ _ rfl _ Z D rfl rfl rfl HI.out (by rw [HZS.out, HS.out]) H1.out ?_)
    | (refine wpList_load_row rfl 46 _ rfl w1.heap.size rfl 46 D (0, 0) _ (HeldB.new w1 _ _) Try.underlying46 rfl HI.out ?_)
    | (go_at_call 36; refine (HRO.out _ hc).mono ?_; rintro e w1 ⟨rfl, hb1⟩)
    | (go_at_call 40; refine (HLI.out _).mono ?_; rintro e w2 ⟨⟨gp, hgp, rfl, hP⟩, hb2⟩))
  simp only [World.size_alloc] at hgp
  refine bodyPost_ret (v := .tuple #[.slice (some ⟨gp, 0, none⟩) S.length S.length, .bool (plainB p)]) (by simp [results, Try.results27, go_sem]) rfl ⟨nums_of hP (by have := hb1.size; omega) HL9.out, below_step hb1 hb1.size ((below_alloc w1 (.cells D 46)).trans (hb2.mono (by simp)))⟩
end Go.Proofs.Yteallnkaapdifaa
