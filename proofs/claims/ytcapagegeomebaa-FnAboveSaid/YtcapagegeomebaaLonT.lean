
/-
  The longest rows of rooms: both answers. (Walks.)
-/
import Derived.Test.YtcapagegeomebaaLonS
namespace Go.Proofs.Ytcapagegeomebaa
open Go.RowKit

theorem pL_goes {p : List ByteArray} (h : plainB p = true) {way : Nat} (hw : way < 2) : Goes (pL p way) (firstQ (pL p)) (gridR p) := by
  refine ⟨first_lin h, fun a b hab => ?_⟩
  obtain ⟨h1, h2⟩ := wars_in (justG_in (h := p.length) (wd := wideB p) (r := gridR p) (g := gridG p) (fun _ _ hi hj => gridG_lt hi hj) way) (gridR p) a b hab
  refine ⟨h1, h2, ?_⟩
  unfold firstQ
  rcases (show way = 0 ∨ way = 1 by omega) with rfl | rfl
  · rw [hab]; rfl
  · rw [hab, Bool.or_true]
theorem goesP (p : List ByteArray) {way : Nat} (hw : way < 2) : Goes (oF p way) (firstQ (oF p)) (oR p) := by
  cases h : plainB p
  · rw [oR_no h, show oF p = noF by unfold oF; rw [h]; rfl]
    exact ⟨⟨fun a ha => by omega, fun a b ha => by omega, fun a b c ha => by omega⟩, fun a b hab => by cases hab⟩
  · rw [oR_yes h, oF_yes h]; exact pL_goes h hw
def longP (p : List ByteArray) (way : Nat) : Nat := lonQ (oF p way) (firstQ (oF p)) (oR p)
theorem longP_no {p : List ByteArray} (h : plainB p = false) (way : Nat) : longP p way = 0 := by
  unfold longP; rw [oR_no h]; rfl
theorem longP_yes {p : List ByteArray} (h : plainB p = true) (way : Nat) : longP p way = lonQ (pL p way) (firstQ (pL p)) (gridR p) := by
  unfold longP; rw [oR_yes h, oF_yes h]
theorem longestP_any (p : List ByteArray) (way : Nat) (w : World) (hw : way < 2) : Calls Try.prog 45 #[.agg (ordP p), .int .i64 way] w
      fun e w' => e = .returned (.int .i64 (longP p way : Nat)) ∧ Below w.heap.size w w' := longest_any (oH p) (oW p) (oR p) (oG p) (oF p) way w (oR_le p) hw (goesP p hw)

set_option maxRecDepth 100000 in
set_option maxHeartbeats 4000000 in
theorem implOrderLong_any (ao : Option Addr) (cap : Nat) (p : List ByteArray) (w : World) (hl : p.length ≤ 1048576) (hs : ∀ s ∈ p, s.size ≤ 1048576) (hc : CellsAt w ao (p.map Value.string)) :
    Calls Try.prog 30 #[.slice ao p.length cap] w fun e w' => e = .returned (.tuple #[.int .i64 (longP p 0 : Nat), .int .i64 (longP p 1 : Nat), .bool (plainB p)]) ∧ Below w.heap.size w w' := by
  have HZ0 := Lib.hid zero_ordC
  have HZS := Lib.hid (show (ordC zeroC noF).size = 201 from ordC_size (planC_size _ _ _ _) _)
  have HRO := Lib.hid (fun w hc => readOrder_any ao cap p w hl hs hc)
  have HA := Lib.hid (fun w => longestP_any p 0 w (by omega))
  have HB := Lib.hid (fun w => longestP_any p 1 w (by omega))
  have HI := Lib.hid (ordP_info p)
  have HS := Lib.hid (ordP_size p)
  have H1 := Lib.hid (ordP_one p)
  change Hid (∀ w, Calls _ _ #[.agg (ordP p), .int .i64 0] w _) at HA
  change Hid (∀ w, Calls _ _ #[.agg (ordP p), .int .i64 1] w _) at HB
  generalize longP p 0 = x at *
  generalize longP p 1 = y at *
  generalize ordP p = D at *
  generalize plainB p = ok at *
  generalize ordC zeroC noF = Z at *
  go_enter Try.func30, Try.ntmps30
  go_wp2_with (first
    | (refine wpList_alloc_zero rfl 50 rfl Z HZ0.out ?_)
    | (refine wpList_store_new rfl 50 _ _ rfl _ Z D rfl rfl rfl HI.out (by rw [HZS.out, HS.out]) H1.out ?_)
    | (go_at_call 33; refine (HRO.out _ hc).mono ?_; rintro e w1 ⟨rfl, hb1⟩; have hbD := HeldB.new w1 50 D))
  have hB2 : Below w.heap.size w (w1.alloc (.cells D 50)) := below_step hb1 hb1.size (below_alloc w1 (.cells D 50))
  generalize w1.alloc (.cells D 50) = W2 at *
  generalize w1.heap.size = B1 at *
  clear hb1 hc HRO
  refine wp_region_held (S := fun w' => HeldB w' B1 50 D) (by kernel_rfl) ?_
  have hBd : Below w.heap.size w ({ W2 with drawn := W2.drawn + 1 } : World) := hB2.trans (below_drewN _ W2 1)
  have hS : HeldB ({ W2 with drawn := W2.drawn + 1 } : World) B1 50 D := hbD
  generalize ({ W2 with drawn := W2.drawn + 1 } : World) = W3 at *
  clear hbD hB2
  change Go.wpAnyH Try.prog Region.Mode.any _ _ _ 8 (Array.replicate 8 false) _ _
  refine wpAnyH_take (i := 0) (v := .agg D) rfl (by kernel_rfl) (by kernel_rfl) (by kernel_rfl) (fun _ _ _ h => h) (yieldsIf_load_row (by kernel_rfl) 50 _ rfl B1 (by rfl) 50 D _ (fun _ h => h) Try.underlying50 rfl HI.out) hS ?_
  refine wpAnyH_take (i := 2) (v := .agg D) rfl (by kernel_rfl) (by kernel_rfl) (by kernel_rfl) (fun _ _ _ h => h) (yieldsIf_load_row (by kernel_rfl) 50 _ rfl B1 (by rfl) 50 D _ (fun _ h => h) Try.underlying50 rfl HI.out) hS ?_
  refine wpAnyH_take (i := 4) (v := .bool ok) rfl (by kernel_rfl) (by kernel_rfl) (by kernel_rfl) (fun _ _ _ h => h) (Yields.yieldsIf (Or.inl ⟨by rfl, fun w => by go_simp⟩)) hS ?_
  refine wpAnyH_all (rs := [1]) (by kernel_rfl) (by decide) ?_
  intro i hi
  simp only [List.mem_cons, List.not_mem_nil, or_false] at hi
  subst hi
  refine wpOp_go rfl (by rfl) ?_
  unfold Oper.wp
  go_simp
  refine (HA.out _).mono ?_
  rintro e w3 ⟨rfl, hb3⟩
  have hS3 := hS.below hb3
  have hB3 := below_step hBd hBd.size hb3
  refine ⟨hS3, ?_⟩
  refine wpAnyH_all (rs := [3]) (by kernel_rfl) (by decide) ?_
  intro i hi
  simp only [List.mem_cons, List.not_mem_nil, or_false] at hi
  subst hi
  refine wpOp_go rfl (by rfl) ?_
  unfold Oper.wp
  go_simp
  refine (HB.out _).mono ?_
  rintro e w4 ⟨rfl, hb4⟩
  have hS4 := hS3.below hb4
  have hB4 := below_step hB3 hB3.size hb4
  refine ⟨hS4, ?_⟩
  refine wpAnyH_take (i := 5) (v := .int .i64 (x : Nat)) rfl (by kernel_rfl) (by kernel_rfl) (by kernel_rfl) (fun _ _ _ h => h) (Yields.yieldsIf (Or.inl ⟨by rfl, fun w => by go_simp⟩)) hS4 ?_
  refine wpAnyH_take (i := 6) (v := .int .i64 (y : Nat)) rfl (by kernel_rfl) (by kernel_rfl) (by kernel_rfl) (fun _ _ _ h => h) (Yields.yieldsIf (Or.inl ⟨by rfl, fun w => by go_simp⟩)) hS4 ?_
  refine wpAnyH_take (i := 7) (v := .bool ok) rfl (by kernel_rfl) (by kernel_rfl) (by kernel_rfl) (fun _ _ _ h => h) (Yields.yieldsIf (Or.inl ⟨by rfl, fun w => by go_simp⟩)) hS4 ?_
  refine wpAnyH_done (by kernel_rfl) ?_ _
  go_wp2
  refine bodyPost_ret (v := .tuple #[.int .i64 (x : Nat), .int .i64 (y : Nat), .bool ok]) (by simp [results, Try.results30, go_sem]) rfl ⟨rfl, hB4⟩

set_option maxRecDepth 100000 in
set_option maxHeartbeats 4000000 in
theorem specOrderLong_any (ao : Option Addr) (cap : Nat) (p : List ByteArray) (w : World) (hl : p.length ≤ 1048576) (hs : ∀ s ∈ p, s.size ≤ 1048576) (hc : CellsAt w ao (p.map Value.string)) :
    Calls Try.prog 31 #[.slice ao p.length cap] w fun e w' => e = .returned (.tuple #[.int .i64 (longP p 0 : Nat), .int .i64 (longP p 1 : Nat), .bool (plainB p)]) ∧ Below w.heap.size w w' := by
  have HP := Lib.hid (fun w hc => l5Plain_any ao cap p w hl hs hc)
  cases hpl : plainB p
  · rw [hpl] at HP
    rw [longP_no hpl, longP_no hpl]
    go_enter Try.func31, Try.ntmps31
    go_wp2_with (go_at_call 42; refine (HP.out _ hc).mono ?_; rintro e w1 ⟨rfl, hb1⟩)
    refine bodyPost_ret (v := .tuple #[.int .i64 0, .int .i64 0, .bool false]) (by simp [results, Try.results31, go_sem]) rfl ⟨rfl, hb1⟩
  · rw [hpl] at HP
    rw [longP_yes hpl, longP_yes hpl]
    have HA := Lib.hid (fun w hc => l5AllP_any ao cap p 0 w hl hs (plainB_plan hpl) hc)
    have HB := Lib.hid (fun w hc => l5AllP_any ao cap p 1 w hl hs (plainB_plan hpl) hc)
    change Hid (∀ w _, Calls _ _ #[.slice ao p.length cap, .int .i64 0] w _) at HA
    change Hid (∀ w _, Calls _ _ #[.slice ao p.length cap, .int .i64 1] w _) at HB
    have hr9 := (planP_of (plainB_plan hpl)).few
    have hr1 : 1 ≤ gridR p := by
      have hP := planP_of (plainB_plan hpl)
      have h := gridG_lt (p := p) (i := 0) (j := 0) (by have := hP.grid.h1; omega) (by have := hP.grid.w1; omega)
      omega
    have HL := Lib.hid (fun (gs : Nat) (S0 : List Nat) (w : World) his hB0 => l5Longest_any gs (gridR p) S0 (pL p 0) (firstQ (pL p)) w hr9 hr1 (pL_goes hpl (by omega)) his hB0)
    have HM := Lib.hid (fun (gs : Nat) (S0 : List Nat) (w : World) his hB0 => l5Longest_any gs (gridR p) S0 (pL p 1) (firstQ (pL p)) w hr9 hr1 (pL_goes hpl (by omega)) his hB0)
    generalize lonQ (pL p 0) (firstQ (pL p)) (gridR p) = x at *
    generalize lonQ (pL p 1) (firstQ (pL p)) (gridR p) = y at *
    generalize pL p 0 = f at *
    generalize pL p 1 = g at *
    generalize gridR p = r at *
    clear hl hs hpl
    go_enter Try.func31, Try.ntmps31
    go_wp2_with (first
      | (go_at_call 42; refine (HP.out _ hc).mono ?_; rintro e w1 ⟨rfl, hb1⟩; have hc1 := hc.below hb1)
      | (go_at_call 36; refine (HA.out _ hc1).mono ?_; rintro e w2 ⟨⟨S, his, g5, hg5, rfl, hB⟩, hb2⟩; have hc2 := hc1.below hb2; clear HA)
      | (go_at_call 46; refine (HL.out g5 S _ his hB).mono ?_; rintro e w3 ⟨rfl, hb3⟩; have hc3 := hc2.below hb3; clear HL)
      | (go_at_call 36; refine (HB.out _ hc3).mono ?_; rintro e w4 ⟨⟨T, hit, g6, hg6, rfl, hB2⟩, hb4⟩; clear HB)
      | (go_at_call 46; refine (HM.out g6 T _ hit hB2).mono ?_; rintro e w5 ⟨rfl, hb5⟩))
    have s1 := hb1.size
    have s2 := hb2.size
    have s3 := hb3.size
    have s4 := hb4.size
    refine bodyPost_ret (v := .tuple #[.int .i64 (x : Nat), .int .i64 (y : Nat), .bool true]) (by simp [results, Try.results31, go_sem]) rfl ⟨rfl, (((hb1.trans (hb2.mono (by omega))).trans (hb3.mono (by omega))).trans (hb4.mono (by omega))).trans (hb5.mono (by omega))⟩
end Go.Proofs.Ytcapagegeomebaa
