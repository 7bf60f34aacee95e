
/-
  The longest rows of rooms: the program's. (Walks.)
-/
import Derived.Test.YtcapagegeomebaaLonM
namespace Go.Proofs.Ytcapagegeomebaa
open Go.RowKit

/-- nine numbers -/
def nineC (v : Nat → Nat) : Array Value := ((List.range 9).map fun b => Value.int .i64 ((v b : Nat) : Int)).toArray
theorem nineC_size (v : Nat → Nat) : (nineC v).size = 9 := by simp [nineC]
theorem nineC_at {v : Nat → Nat} {b : Nat} (h : b < 9) : (nineC v)[b]? = some (.int .i64 ((v b : Nat) : Int)) := by simp [nineC, h]
theorem nineC_put (v : Nat → Nat) {b : Nat} (h : b < 9) (m : Nat) : (nineC v).setIfInBounds b (.int .i64 (m : Nat)) = nineC (fun x => if x = b then m else v x) := by
  apply Array.ext_getElem?
  intro i
  rw [Array.getElem?_setIfInBounds]
  by_cases hi : b = i
  · subst hi; rw [if_pos rfl, if_pos (by rw [nineC_size]; exact h), nineC_at h, if_pos rfl]
  · rw [if_neg hi]
    by_cases h9 : i < 9
    · rw [nineC_at h9, nineC_at h9, if_neg (fun e => hi e.symm)]
    · rw [Array.getElem?_eq_none (by rw [nineC_size]; omega), Array.getElem?_eq_none (by rw [nineC_size]; omega)]
theorem nineC_same {v v' : Nat → Nat} (h : ∀ b, b < 9 → v b = v' b) : nineC v = nineC v' := by
  unfold nineC
  congr 1
  refine List.map_congr_left fun i hi => ?_
  rw [h i (List.mem_range.1 hi)]
theorem zero_nine : nineC (fun _ => 0) = #[.int .i64 0, .int .i64 0, .int .i64 0, .int .i64 0, .int .i64 0, .int .i64 0, .int .i64 0, .int .i64 0, .int .i64 0] := by kernel_rfl
theorem zero_nineC (w : World) : (zeroValue 80).run Try.prog w = .ok (.agg (nineC fun _ => 0)) w := by
  rw [zero_nine]; exact Try.zeroValue80 w

/-- what is known once the first rooms of the line are gone through -/
def vK (f q : Nat → Nat → Bool) (r k x : Nat) : Nat := if x < r ∧ placeN q r x < k then hiM f r x else 0
def vI (f q : Nat → Nat → Bool) (r k b i x : Nat) : Nat := if x = b then foM f (hiM f r) b i else vK f q r k x
theorem vK_zero (f q : Nat → Nat → Bool) (r x : Nat) : vK f q r 0 x = 0 := by unfold vK; rw [if_neg (by omega)]
theorem vI_zero {f q : Nat → Nat → Bool} {r k b : Nat} (hb : placeN q r b = k) (x : Nat) : vI f q r k b 0 x = vK f q r k x := by
  unfold vI
  by_cases h : x = b
  · subst h; rw [if_pos rfl]; unfold vK foM; rw [if_neg (by omega)]
  · rw [if_neg h]
theorem vI_all {f q : Nat → Nat → Bool} {r k b : Nat} (G : Goes f q r) (hbr : b < r) (hb : placeN q r b = k) (x : Nat) : vI f q r k b r x = vK f q r (k + 1) x := by
  unfold vI
  by_cases h : x = b
  · subst h; rw [if_pos rfl, G.fix hbr]; unfold vK; rw [if_pos ⟨hbr, by omega⟩]
  · rw [if_neg h]
    unfold vK
    by_cases hx : x < r ∧ placeN q r x < k
    · rw [if_pos hx, if_pos ⟨hx.1, by omega⟩]
    · rw [if_neg hx, if_neg ?_]
      rintro ⟨h1, h2⟩
      have : placeN q r x ≠ k := fun e => h (G.lin.inj h1 hbr (by omega))
      exact hx ⟨h1, by omega⟩
theorem vI_self (f q : Nat → Nat → Bool) (r k b i : Nat) : vI f q r k b i b = foM f (hiM f r) b i := by unfold vI; rw [if_pos rfl]
theorem vI_ahead {f q : Nat → Nat → Bool} {r k b i : Nat} (G : Goes f q r) (hb : placeN q r b = k) (j : Nat) (hf : f i b = true) : vI f q r k b j i = hiM f r i := by
  obtain ⟨h1, h2, h3⟩ := G.imp _ _ hf
  have hne : i ≠ b := fun e => by subst e; rw [G.lin.irr i h1] at h3; cases h3
  have := G.lin.mono h1 h2 h3
  unfold vI vK
  rw [if_neg hne, if_pos ⟨h1, by omega⟩]
theorem vI_step {f q : Nat → Nat → Bool} {r k b i : Nat} (hf : f i b = true) : (fun x => if x = b then max (foM f (hiM f r) b i) (hiM f r i + 1) else vI f q r k b i x) = vI f q r k b (i + 1) := by
  funext x
  unfold vI
  by_cases h : x = b
  · subst h; rw [if_pos rfl, if_pos rfl, foM, if_pos hf]
  · rw [if_neg h, if_neg h, if_neg h]
theorem vI_skip {f q : Nat → Nat → Bool} {r k b i : Nat} (hf : f i b = false) : vI f q r k b i = vI f q r k b (i + 1) := by
  funext x
  unfold vI
  by_cases h : x = b
  · subst h; rw [if_pos rfl, if_pos rfl, foM, hf]; simp
  · rw [if_neg h, if_neg h]

theorem max_int (y z : Nat) : (if (y : Int) < (z : Int) + 1 then (z : Int) + 1 else (y : Int)) = ((max y (z + 1) : Nat) : Int) := by
  split <;> omega
theorem vK_here {f q : Nat → Nat → Bool} {r k b : Nat} (hbr : b < r) (hb : placeN q r b = k) : vK f q r (k + 1) b = hiM f r b := by unfold vK; rw [if_pos ⟨hbr, by omega⟩]

/-- where the numbers lie -/
def LoSt (w : World) (D : Array Value) (gp : Nat) (L : List Nat) (v : Nat → Nat) (wr : World) : Prop :=
  HeldB wr w.heap.size 50 D ∧ HeldB wr (w.heap.size + 1) 80 (nineC v) ∧ HeldB wr gp 3 (setsV L) ∧ Below w.heap.size w wr
theorem LoSt.put {w : World} {D : Array Value} {gp : Nat} {L : List Nat} {v v' : Nat → Nat} {wr : World} (hgp : gp ≠ w.heap.size + 1) (h : LoSt w D gp L v wr) {b : Nat} (hb : b < 9) (m : Nat) (hv : (fun x => if x = b then m else v x) = v') :
    LoSt w D gp L v' (wr.setCell ⟨w.heap.size + 1, b, none⟩ (.int .i64 (m : Nat))) := by
  subst hv
  exact ⟨h.1.other (by simp) _, (h.2.1.set b _).eq (nineC_put v hb m), h.2.2.1.other hgp _, h.2.2.2.setCell (p := ⟨w.heap.size + 1, b, none⟩) (by simp) _⟩
theorem LoSt.drew {w : World} {D : Array Value} {gp : Nat} {L : List Nat} {v : Nat → Nat} {wr : World} (h : LoSt w D gp L v wr) : LoSt w D gp L v wr.drew := ⟨h.1.drew, h.2.1.drew, h.2.2.1.drew, h.2.2.2.drew⟩

set_option maxRecDepth 100000 in
set_option maxHeartbeats 4000000 in
theorem longest_any (h wd r : Nat) (g : Nat → Nat → Nat) (F : Nat → Nat → Nat → Bool) (way : Nat) (w : World) (hr : r ≤ 9) (hw : way < 2) (G : Goes (F way) (firstQ F) r) :
    Calls Try.prog 45 #[.agg (ordC (planC h wd r g) F), .int .i64 way] w
      fun e w' => e = .returned (.int .i64 (lonQ (F way) (firstQ F) r : Nat)) ∧ Below w.heap.size w w' := by
  have HLI := Lib.hid (fun w => lineFirst_any h wd r g F w hr G.lin.irr)
  have hD2 : (ordC (planC h wd r g) F)[2]? = some (.int .i64 (r : Nat)) := by rw [ordC_lo F (by rw [planC_size]; omega), planC_2]
  have hDF := fun (a b : Nat) (ha : a < 9) (hb : b < 9) => ordC_at (planC_size h wd r g) F hw ha hb
  have HDI := Lib.hid (ord_info (planC_size h wd r g) F)
  have HLL := Lib.hid (lineN_len (firstQ F) r r)
  have HBK := Lib.hid (fun k (hk : k < r) => G.lin.back hk)
  have HZ := Lib.hid zero_nineC
  have HDF := Lib.hid hDF; have HD2 := Lib.hid hD2
  clear hDF hD2
  generalize hq : firstQ F = q at *
  generalize hf : F way = f at *
  have HMF := Lib.hid (fun k (hk : k ≤ r) => moM_few (k := k) G hk)
  have HHL := Lib.hid (fun b (hb : b < r) => G.hi_lt hb)
  have HFF := Lib.hid (fun b i (hb : b < r) (hi : i ≤ r) => foM_few (b := b) (i := i) G hb hi)
  have HV0 := Lib.hid (fun k b (hb : placeN q r b = k) => nineC_same (fun x _ => (vI_zero (f := f) hb x).symm))
  have HVA := Lib.hid (fun k b (hbr : b < r) (hb : placeN q r b = k) => nineC_same (fun x _ => vI_all G hbr hb x))
  have HVI := Lib.hid (fun k b i j (hb : placeN q r b = k) (hfi : f i b = true) => vI_ahead G hb j hfi)
  have HVS := Lib.hid (fun k b i (hfi : f i b = true) => vI_step (q := q) (r := r) (k := k) hfi)
  have HVN := Lib.hid (fun k b i (hfi : f i b = false) => vI_skip (q := q) (r := r) (k := k) hfi)
  have HVH := Lib.hid (fun k b (hbr : b < r) (hb : placeN q r b = k) => vK_here (f := f) hbr hb)
  have HMO := Lib.hid (fun k => show moM f q r (k + 1) = max (moM f q r k) (hiM f r ((lineN q r r).getD k 0) + 1) from rfl)
  have HM0 := Lib.hid (show moM f q r 0 = 0 from rfl)
  have HIM := Lib.hid (fun a b e => (G.imp a b e).1)
  have HLQ := Lib.hid (show lonQ f q r = moM f q r r from rfl)
  have HZ2 := Lib.hid (nineC_same (fun x _ => (vK_zero f q r x).symm))
  clear G hq hf
  generalize ordC (planC h wd r g) F = D at *
  have hB0 := HeldB.new w 50 D
  have hB1 := hB0.alloc (.cells (nineC fun _ => 0) 80)
  have hN1 := HeldB.new (w.alloc (.cells D 50)) 80 (nineC fun _ => 0)
  have hbl := (below_alloc w (.cells D 50)).trans ((below_alloc (w.alloc (.cells D 50)) (.cells (nineC fun _ => 0) 80)).mono (by simp))
  rw [World.size_alloc] at hN1
  generalize nineC (fun _ => 0) = Z at *
  go_enter Try.func45, Try.ntmps45
  go_wp2_with (first
    | (refine wpList_alloc_zero rfl 80 rfl Z HZ.out ?_)
    | (refine wpList_load_row rfl 50 _ rfl w.heap.size rfl 50 D (0, 0) _ hB1 Try.underlying50 rfl HDI.out ?_)
    | (go_at_call 40; refine (HLI.out _).mono ?_; rintro e w3 ⟨⟨gp, hgp, rfl, hP⟩, hb3⟩))
  simp only [World.size_alloc] at hgp
  have st3 : LoSt w D gp (lineN q r r) (vK f q r 0) w3 := ⟨hB1.below hb3, (hN1.below hb3).eq HZ2.out, hP, hbl.trans (hb3.mono (by simp; omega))⟩
  have hgn : gp ≠ w.heap.size + 1 := by omega
  rw [HLL.out]
  clear hB0 hB1 hN1 hP hb3 hbl hgp HLI HZ2
  go_loopw [5, 15] (fun v5 v wr => ∃ k : Nat, k ≤ r ∧ v = .int .i64 k ∧ v5 = .int .i64 (moM f q r k : Nat) ∧ LoSt w D gp (lineN q r r) (vK f q r k) wr) (fun _ v _ => r - (intOf v).toNat)
  case atStart => exact ⟨0, Nat.zero_le _, rfl, by rw [HM0.out]; rfl, st3⟩
  case round =>
    clear st3
    obtain ⟨k, hk, rfl, rfl, hst⟩ := hrel
    by_cases hkr : k < r
    · obtain ⟨hpb, hbr⟩ := HBK.out k hkr
      have k1 : wr.cell? ⟨gp, k, none⟩ = some (.int .i64 ((lineN q r r).getD k 0 : Nat)) := (hst.2.2.1.cell k).trans (setsV_at (by rw [HLL.out]; exact hkr))
      have c2 : wr.cell? ⟨w.heap.size, 2, none⟩ = some (.int .i64 (r : Nat)) := (hst.1.cell 2).trans HD2.out
      have HMS := Lib.hid (HMO.out k)
      generalize (lineN q r r).getD k 0 = b at *
      have hst2 : LoSt w D gp (lineN q r r) (vI f q r k b 0) wr := ⟨hst.1, hst.2.1.eq (HV0.out k b hpb), hst.2.2⟩
      have hkri : (k : Int) < (r : Int) := by omega
      clear hst
      go_wp2
      clear k1 c2
      go_loopw [22] (fun v wr => ∃ i : Nat, i ≤ r ∧ v = .int .i64 i ∧ LoSt w D gp (lineN q r r) (vI f q r k b i) wr) (fun v _ => r - (intOf v).toNat)
      case atStart => exact ⟨0, Nat.zero_le _, rfl, hst2⟩
      case round =>
        clear hst2
        obtain ⟨i, hi, rfl, hst⟩ := hrel
        by_cases hir : i < r
        · have hb9 : b < 9 := by omega
          have hi9 : i < 9 := by omega
          have hb9i : (b : Int) < 9 := by omega
          have hi9i : (i : Int) < 9 := by omega
          have hwi : (way : Int) < 2 := by omega
          have k1 := (hst.1.cell (39 + way * 81 + i * 9 + b)).trans (HDF.out i b hi9 hb9)
          cases hfi : f i b
          · rw [hfi] at k1
            rw [HVN.out k b i hfi] at hst
            go_wp2
            go_roundw
            case rel => exact ⟨i + 1, by omega, by go_num, hst⟩
            case measure => simp [intOf]; omega
          · rw [hfi] at k1
            have k2 := (hst.2.1.cell b).trans (nineC_at hb9)
            have k3 := (hst.2.1.cell i).trans (nineC_at hi9)
            rw [vI_self] at k2
            rw [HVI.out k b i i hpb hfi] at k3
            have f1 := hst.2.1.frozen b
            have hst2 := hst.put hgn hb9 _ (HVS.out k b i hfi)
            have hh1 := HHL.out i hir
            have hh2 := HFF.out b i hbr hi
            generalize foM f (hiM f r) b i = y at *
            generalize hiM f r i = z at *
            clear hst
            go_wp2
            go_region
            rw [max_int]
            go_wp2
            go_roundw
            case rel => exact ⟨i + 1, by omega, by go_num, hst2.drew⟩
            case measure => simp [intOf]; omega
        · obtain rfl : i = r := by omega
          have hst2 : LoSt w D gp (lineN q i i) (vK f q i (k + 1)) wr := ⟨hst.1, hst.2.1.eq (HVA.out k b hbr hpb), hst.2.2⟩
          have hb9 : b < 9 := by omega
          have hb9i : (b : Int) < 9 := by omega
          have k2 := (hst2.2.1.cell b).trans (nineC_at hb9)
          rw [HVH.out k b hbr hpb] at k2
          have hh1 := HHL.out b hbr
          have hm1 := HMF.out k (by omega)
          generalize hiM f i b = z at *
          generalize moM f q i k = y at *
          clear hst
          go_wp2
          rw [max_int]
          go_roundw
          case rel => exact ⟨k + 1, by omega, by go_num, by rw [HMS.out], hst2⟩
          case measure => simp [intOf]; omega
    · obtain rfl : k = r := by omega
      go_wp2
      go_ret
      exact ⟨by rw [HLQ.out]; rfl, hst.2.2.2⟩
end Go.Proofs.Ytcapagegeomebaa
