
/-
  The model's lines of rooms. (Walks.)
-/
import Derived.Test.YteallnkaapdifaaOrdV
import Derived.Test.YteallnkaapdifaaOrdZ
namespace Go.Proofs.Yteallnkaapdifaa
open Go.RowKit

theorem oR_yes {p : List ByteArray} (h : plainB p = true) : oR p = gridR p := by unfold oR; rw [if_pos h]
/-- where the model's line lies -/
def SoSt (w : World) (g5 g6 gp : Nat) (S T L : List Nat) (wr : World) : Prop := HeldB wr g5 3 (setsV S) ∧ HeldB wr g6 3 (setsV T) ∧ HeldB wr gp 3 (setsV L) ∧ Below w.heap.size w wr
theorem SoSt.put {w : World} {g5 g6 gp : Nat} {S T L M : List Nat} {wr : World} (h1 : g5 ≠ gp) (h2 : g6 ≠ gp) (h3 : w.heap.size ≤ gp) (h : SoSt w g5 g6 gp S T L wr) (x m : Nat) (hM : L.set x m = M) : SoSt w g5 g6 gp S T M (wr.setCell ⟨gp, x, none⟩ (.int .i64 (m : Nat))) := by
  subst hM
  exact ⟨h.1.other h1 _, h.2.1.other h2 _, (h.2.2.1.set x _).eq (setsV_put L x m), h.2.2.2.setCell (p := ⟨gp, x, none⟩) h3 _⟩

set_option maxRecDepth 100000 in
set_option maxHeartbeats 4000000 in
theorem l5SortedFirst_any (ao : Option Addr) (cap : Nat) (p : List ByteArray) (w : World) (hl : p.length ≤ 1048576) (hs : ∀ s ∈ p, s.size ≤ 1048576) (hpl : plainB p = true) (hc : CellsAt w ao (p.map Value.string)) :
    Calls Try.prog 39 #[.slice ao p.length cap, .bool false] w fun e w' => PlRet w.heap.size (firstL p) e w' ∧ Below w.heap.size w w' := by
  have HA := Lib.hid (fun w hc => l5AllP_any ao cap p 0 w hl hs (plainB_plan hpl) hc)
  have HB := Lib.hid (fun w hc => l5AllP_any ao cap p 1 w hl hs (plainB_plan hpl) hc)
  change Hid (∀ w _, Calls _ _ #[.slice ao p.length cap, .int .i64 0] w _) at HA
  change Hid (∀ w _, Calls _ _ #[.slice ao p.length cap, .int .i64 1] w _) at HB
  have hr9 := (planP_of (plainB_plan hpl)).few
  have HIR := Lib.hid (firstQ_irr p)
  rw [oR_yes hpl, oF_yes hpl] at HIR
  unfold firstL
  rw [oR_yes hpl, oF_yes hpl]
  clear hl hs hpl
  obtain ⟨q, hq⟩ : ∃ q, q = firstQ (pL p) := ⟨_, rfl⟩
  rw [← hq] at HIR
  rw [← hq]
  have HQ := Lib.hid (show ∀ b a, q b a = (pL p 0 b a || pL p 1 b a) from fun b a => by rw [hq]; rfl)
  clear hq
  generalize pL p 0 = f at *
  generalize pL p 1 = g at *
  generalize gridR p = r at *
  have HBIT := Lib.hid (fun (S : List Nat) (f : Nat → Nat → Bool) (h : IsSets S r f) (x y : Nat) (hx : x < r) => show (bits .and .i64 (((S.getD x 0 : Nat) : Int) / 2 ^ y) 1 == 1) = f x y by
    rw [← h.bit x y hx]; exact bit_i64 _ y (h.low x hx))
  have HCEL := Lib.hid (fun (S : List Nat) (f : Nat → Nat → Bool) (h : IsSets S r f) (x : Nat) (hx : x < r) => show (setsV S)[x]? = some (.int .i64 ((S.getD x 0 : Nat) : Int)) from setsV_at (by rw [h.len]; exact hx))
  have HLT := Lib.hid (fun b (hb : b < r) => placeN_lt hb (HIR.out b hb))
  have HLE := Lib.hid (fun k => lineN_len q r k)
  have HL0 := Lib.hid (show lineN q r 0 = List.replicate r 0 from rfl)
  have HLS := Lib.hid (fun k => show (lineN q r k).set (placeN q r k) k = lineN q r (k + 1) from rfl)
  have HPS := Lib.hid (fun k b => placeN_succ q k b)
  have HPE := Lib.hid (fun k b => placeN_le q k b)
  have HP0 := Lib.hid (fun b => show placeN q 0 b = 0 from rfl)
  clear HIR
  obtain ⟨im, hmi, hmz, hm1, hm2⟩ := info_parts Try.infoNum
  go_enter Try.func39, Try.ntmps39
  go_wp2_with (first
    | (go_at_call 35; refine (HA.out _ hc).mono ?_; rintro e w1 ⟨⟨S, his, g5, hg5, rfl, hB⟩, hb1⟩; rw [his.len]; have hc1 := hc.below hb1; clear HA)
    | (go_at_call 35; refine (HB.out _ hc1).mono ?_; rintro e w2 ⟨⟨T, hit, g6, hg6, rfl, hB2⟩, hb2⟩; rw [hit.len]; clear HB)
    | (at_make; refine wpList_make_full _ rfl _ _ 29 rfl w.heap.size 3 im (.int .i64 0) 1 Try.underlying29 hmi hmz hm1 .i64 .i64 _ _ r rfl rfl rfl rfl ?d2 ?d3 (by have := hb1.size; have := hb2.size; omega) ?_; rotate_left 2; intro w3 ho3 hg3; have hb3 : Below w2.heap.size w2 w3 := below_of_grownBy hg3 (Nat.le_refl _) (fun k hk => by cases hk); have hz := held_zeros ho3))
  case d2 => rw [hm2]; omega
  case d3 => unfold maxLen; omega
  have l5 := (hB.below hb2).lt
  have l6 := hB2.lt
  have hs1 := hb1.size
  have hs2 := hb2.size
  obtain ⟨gp, hgp⟩ : ∃ gp, gp = w2.heap.size := ⟨_, rfl⟩
  rw [← hgp] at hz ⊢
  have n5 : g5 ≠ gp := by omega
  have n6 : g6 ≠ gp := by omega
  have n0 : w.heap.size ≤ gp := by omega
  have st3 : SoSt w g5 g6 gp S T (lineN q r 0) w3 := ⟨(hB.below hb2).below hb3, hB2.below hb3, by rw [HL0.out]; exact hz, below_step (below_step hb1 hs1 hb2) (by omega) hb3⟩
  clear hz hB hB2 hb1 hb2 hb3 ho3 hg3 hc1 hc l5 l6 hs1 hs2 hgp hg5 hg6
  have HN := Lib.hid (show ∀ b, b < r → (b : Int) < (r : Int) from fun b hb => by omega)
  have HIS := Lib.hid his; have HIT := Lib.hid hit
  clear his hit
  go_loopw [9] (fun v wr => ∃ k : Nat, k ≤ r ∧ v = .int .i64 k ∧ SoSt w g5 g6 gp S T (lineN q r k) wr) (fun v _ => r - (intOf v).toNat)
  case atStart => exact ⟨0, Nat.zero_le _, rfl, st3⟩
  case round =>
    clear st3
    obtain ⟨k, hk, rfl, hst⟩ := hrel
    by_cases hkr : k < r
    · go_wp2
      go_loopw [10, 11] (fun v10 v11 wr => ∃ b : Nat, b ≤ r ∧ v11 = .int .i64 b ∧ v10 = .int .i64 (placeN q b k : Nat) ∧ SoSt w g5 g6 gp S T (lineN q r k) wr) (fun _ v _ => r - (intOf v).toNat)
      case atStart => exact ⟨0, Nat.zero_le _, rfl, by rw [HP0.out]; rfl, hst⟩
      case round =>
        clear hst
        obtain ⟨b, hb, rfl, rfl, hst⟩ := hrel
        by_cases hbr : b < r
        · have k1 := (hst.1.cell b).trans (HCEL.out S f HIS.out b hbr)
          have k2 := (hst.2.1.cell b).trans (HCEL.out T g HIT.out b hbr)
          have k3 := (hst.2.1.cell k).trans (HCEL.out T g HIT.out k hkr)
          have t1 := HBIT.out S f HIS.out b k hbr
          have t2 := HBIT.out T g HIT.out b k hbr
          have t3 := HBIT.out T g HIT.out k b hkr
          have hbi : (b : Int) < (r : Int) := by omega
          have hki : (k : Int) < (r : Int) := by omega
          have hpe := HPE.out b k
          have HP2 := Lib.hid (HPS.out b k)
          rw [HQ.out] at HP2
          generalize placeN q b k = y at *
          generalize S.getD b 0 = z1 at *
          generalize T.getD b 0 = z2 at *
          generalize T.getD k 0 = z3 at *
          cases h1 : f b k
          · rw [h1] at t1 HP2
            cases h2 : g b k
            · rw [h2] at t2 HP2
              have hy : placeN q (b + 1) k = y := by rw [HP2.out]; rfl
              clear HP2
              go_wp2
              go_roundw
              case rel => exact ⟨b + 1, by omega, by go_num, by rw [hy], hst⟩
              case measure => simp [intOf]; omega
            · rw [h2] at t2 HP2
              have hy : placeN q (b + 1) k = y + 1 := by rw [HP2.out]; rfl
              clear HP2
              go_wp2
              go_roundw
              case rel => exact ⟨b + 1, by omega, by go_num, by rw [hy]; go_num, hst⟩
              case measure => simp [intOf]; omega
          · rw [h1] at t1 HP2
            have hy : placeN q (b + 1) k = y + 1 := by rw [HP2.out]; rfl
            clear HP2
            go_wp2
            go_roundw
            case rel => exact ⟨b + 1, by omega, by go_num, by rw [hy]; go_num, hst⟩
            case measure => simp [intOf]; omega
        · obtain rfl : b = r := by omega
          have hlt := HLT.out k hkr
          have hll := HLE.out k
          have hst2 := hst.put n5 n6 n0 (placeN q b k) k (HLS.out k)
          have f1 := hst.2.2.1.frozen (placeN q b k)
          have k2 : wr.cell? ⟨gp, placeN q b k, none⟩ = some (.int .i64 ((lineN q b k).getD (placeN q b k) 0 : Nat)) := (hst.2.2.1.cell _).trans (setsV_at (by rw [hll]; exact hlt))
          have hlti : ((placeN q b k : Nat) : Int) < (b : Int) := by omega
          generalize (lineN q b k).getD (placeN q b k) 0 = z at *
          generalize placeN q b k = y at *
          clear hst
          go_wp2
          go_roundw
          case rel => exact ⟨k + 1, by omega, by go_num, hst2⟩
          case measure => simp [intOf]; omega
    · obtain rfl : k = r := by omega
      have hlen := HLE.out k
      go_wp2
      go_ret
      exact ⟨⟨gp, n0, by rw [hlen]; rfl, hst.2.2.1⟩, hst.2.2.2⟩

set_option maxRecDepth 100000 in
set_option maxHeartbeats 4000000 in
theorem l5SortedSecond_any (ao : Option Addr) (cap : Nat) (p : List ByteArray) (w : World) (hl : p.length ≤ 1048576) (hs : ∀ s ∈ p, s.size ≤ 1048576) (hpl : plainB p = true) (hc : CellsAt w ao (p.map Value.string)) :
    Calls Try.prog 39 #[.slice ao p.length cap, .bool true] w fun e w' => PlRet w.heap.size (secondL p) e w' ∧ Below w.heap.size w w' := by
  have HA := Lib.hid (fun w hc => l5AllP_any ao cap p 0 w hl hs (plainB_plan hpl) hc)
  have HB := Lib.hid (fun w hc => l5AllP_any ao cap p 1 w hl hs (plainB_plan hpl) hc)
  change Hid (∀ w _, Calls _ _ #[.slice ao p.length cap, .int .i64 0] w _) at HA
  change Hid (∀ w _, Calls _ _ #[.slice ao p.length cap, .int .i64 1] w _) at HB
  have hr9 := (planP_of (plainB_plan hpl)).few
  have HIR := Lib.hid (secondQ_irr p)
  rw [oR_yes hpl, oF_yes hpl] at HIR
  unfold secondL
  rw [oR_yes hpl, oF_yes hpl]
  clear hl hs hpl
  obtain ⟨q, hq⟩ : ∃ q, q = secondQ (pL p) := ⟨_, rfl⟩
  rw [← hq] at HIR
  rw [← hq]
  have HQ := Lib.hid (show ∀ b a, q b a = (pL p 0 b a || pL p 1 a b) from fun b a => by rw [hq]; rfl)
  clear hq
  generalize pL p 0 = f at *
  generalize pL p 1 = g at *
  generalize gridR p = r at *
  have HBIT := Lib.hid (fun (S : List Nat) (f : Nat → Nat → Bool) (h : IsSets S r f) (x y : Nat) (hx : x < r) => show (bits .and .i64 (((S.getD x 0 : Nat) : Int) / 2 ^ y) 1 == 1) = f x y by
    rw [← h.bit x y hx]; exact bit_i64 _ y (h.low x hx))
  have HCEL := Lib.hid (fun (S : List Nat) (f : Nat → Nat → Bool) (h : IsSets S r f) (x : Nat) (hx : x < r) => show (setsV S)[x]? = some (.int .i64 ((S.getD x 0 : Nat) : Int)) from setsV_at (by rw [h.len]; exact hx))
  have HLT := Lib.hid (fun b (hb : b < r) => placeN_lt hb (HIR.out b hb))
  have HLE := Lib.hid (fun k => lineN_len q r k)
  have HL0 := Lib.hid (show lineN q r 0 = List.replicate r 0 from rfl)
  have HLS := Lib.hid (fun k => show (lineN q r k).set (placeN q r k) k = lineN q r (k + 1) from rfl)
  have HPS := Lib.hid (fun k b => placeN_succ q k b)
  have HPE := Lib.hid (fun k b => placeN_le q k b)
  have HP0 := Lib.hid (fun b => show placeN q 0 b = 0 from rfl)
  clear HIR
  obtain ⟨im, hmi, hmz, hm1, hm2⟩ := info_parts Try.infoNum
  go_enter Try.func39, Try.ntmps39
  go_wp2_with (first
    | (go_at_call 35; refine (HA.out _ hc).mono ?_; rintro e w1 ⟨⟨S, his, g5, hg5, rfl, hB⟩, hb1⟩; rw [his.len]; have hc1 := hc.below hb1; clear HA)
    | (go_at_call 35; refine (HB.out _ hc1).mono ?_; rintro e w2 ⟨⟨T, hit, g6, hg6, rfl, hB2⟩, hb2⟩; rw [hit.len]; clear HB)
    | (at_make; refine wpList_make_full _ rfl _ _ 29 rfl w.heap.size 3 im (.int .i64 0) 1 Try.underlying29 hmi hmz hm1 .i64 .i64 _ _ r rfl rfl rfl rfl ?d2 ?d3 (by have := hb1.size; have := hb2.size; omega) ?_; rotate_left 2; intro w3 ho3 hg3; have hb3 : Below w2.heap.size w2 w3 := below_of_grownBy hg3 (Nat.le_refl _) (fun k hk => by cases hk); have hz := held_zeros ho3))
  case d2 => rw [hm2]; omega
  case d3 => unfold maxLen; omega
  have l5 := (hB.below hb2).lt
  have l6 := hB2.lt
  have hs1 := hb1.size
  have hs2 := hb2.size
  obtain ⟨gp, hgp⟩ : ∃ gp, gp = w2.heap.size := ⟨_, rfl⟩
  rw [← hgp] at hz ⊢
  have n5 : g5 ≠ gp := by omega
  have n6 : g6 ≠ gp := by omega
  have n0 : w.heap.size ≤ gp := by omega
  have st3 : SoSt w g5 g6 gp S T (lineN q r 0) w3 := ⟨(hB.below hb2).below hb3, hB2.below hb3, by rw [HL0.out]; exact hz, below_step (below_step hb1 hs1 hb2) (by omega) hb3⟩
  clear hz hB hB2 hb1 hb2 hb3 ho3 hg3 hc1 hc l5 l6 hs1 hs2 hgp hg5 hg6
  have HN := Lib.hid (show ∀ b, b < r → (b : Int) < (r : Int) from fun b hb => by omega)
  have HIS := Lib.hid his; have HIT := Lib.hid hit
  clear his hit
  go_loopw [9] (fun v wr => ∃ k : Nat, k ≤ r ∧ v = .int .i64 k ∧ SoSt w g5 g6 gp S T (lineN q r k) wr) (fun v _ => r - (intOf v).toNat)
  case atStart => exact ⟨0, Nat.zero_le _, rfl, st3⟩
  case round =>
    clear st3
    obtain ⟨k, hk, rfl, hst⟩ := hrel
    by_cases hkr : k < r
    · go_wp2
      go_loopw [10, 11] (fun v10 v11 wr => ∃ b : Nat, b ≤ r ∧ v11 = .int .i64 b ∧ v10 = .int .i64 (placeN q b k : Nat) ∧ SoSt w g5 g6 gp S T (lineN q r k) wr) (fun _ v _ => r - (intOf v).toNat)
      case atStart => exact ⟨0, Nat.zero_le _, rfl, by rw [HP0.out]; rfl, hst⟩
      case round =>
        clear hst
        obtain ⟨b, hb, rfl, rfl, hst⟩ := hrel
        by_cases hbr : b < r
        · have k1 := (hst.1.cell b).trans (HCEL.out S f HIS.out b hbr)
          have k2 := (hst.2.1.cell b).trans (HCEL.out T g HIT.out b hbr)
          have k3 := (hst.2.1.cell k).trans (HCEL.out T g HIT.out k hkr)
          have t1 := HBIT.out S f HIS.out b k hbr
          have t2 := HBIT.out T g HIT.out b k hbr
          have t3 := HBIT.out T g HIT.out k b hkr
          have hbi : (b : Int) < (r : Int) := by omega
          have hki : (k : Int) < (r : Int) := by omega
          have hpe := HPE.out b k
          have HP2 := Lib.hid (HPS.out b k)
          rw [HQ.out] at HP2
          generalize placeN q b k = y at *
          generalize S.getD b 0 = z1 at *
          generalize T.getD b 0 = z2 at *
          generalize T.getD k 0 = z3 at *
          cases h1 : f b k
          · rw [h1] at t1 HP2
            cases h2 : g k b
            · rw [h2] at t3 HP2
              have hy : placeN q (b + 1) k = y := by rw [HP2.out]; rfl
              clear HP2
              go_wp2
              go_roundw
              case rel => exact ⟨b + 1, by omega, by go_num, by rw [hy], hst⟩
              case measure => simp [intOf]; omega
            · rw [h2] at t3 HP2
              have hy : placeN q (b + 1) k = y + 1 := by rw [HP2.out]; rfl
              clear HP2
              go_wp2
              go_roundw
              case rel => exact ⟨b + 1, by omega, by go_num, by rw [hy]; go_num, hst⟩
              case measure => simp [intOf]; omega
          · rw [h1] at t1 HP2
            have hy : placeN q (b + 1) k = y + 1 := by rw [HP2.out]; rfl
            clear HP2
            go_wp2
            go_roundw
            case rel => exact ⟨b + 1, by omega, by go_num, by rw [hy]; go_num, hst⟩
            case measure => simp [intOf]; omega
        · obtain rfl : b = r := by omega
          have hlt := HLT.out k hkr
          have hll := HLE.out k
          have hst2 := hst.put n5 n6 n0 (placeN q b k) k (HLS.out k)
          have f1 := hst.2.2.1.frozen (placeN q b k)
          have k2 : wr.cell? ⟨gp, placeN q b k, none⟩ = some (.int .i64 ((lineN q b k).getD (placeN q b k) 0 : Nat)) := (hst.2.2.1.cell _).trans (setsV_at (by rw [hll]; exact hlt))
          have hlti : ((placeN q b k : Nat) : Int) < (b : Int) := by omega
          generalize (lineN q b k).getD (placeN q b k) 0 = z at *
          generalize placeN q b k = y at *
          clear hst
          go_wp2
          go_roundw
          case rel => exact ⟨k + 1, by omega, by go_num, hst2⟩
          case measure => simp [intOf]; omega
    · obtain rfl : k = r := by omega
      have hlen := HLE.out k
      go_wp2
      go_ret
      exact ⟨⟨gp, n0, by rw [hlen]; rfl, hst.2.2.1⟩, hst.2.2.2⟩
end Go.Proofs.Yteallnkaapdifaa
