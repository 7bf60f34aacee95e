
/-
  Merged texts: ImplT SpecT TightA.
-/
import Derived.Test.YtamfnahbhhmiiaaImplW
import Derived.Test.YtamfnahbhhmiiaaTightM
import Derived.Test.YtamfnahbhhmiiaaBytes
import Derived.Test.YtamfnahbhhmiiaaArr
import Derived.Test.YtamfnahbhhmiiaaWideA

/-
  The program leaves out rows and columns that repeat the one ahead of them. (Walks.)
-/
namespace Go.Proofs.Ytamfnahbhhmiiaa
open Go.RowKit

set_option maxHeartbeats 1000000 in
theorem repeatsColumn_any (h wd r c : Nat) (g : Nat → Nat → Nat) (w : World) (hh : h ≤ 6) (h1 : 1 ≤ c) (h6 : c < 6) :
    Calls Try.prog 69 #[.agg (planC h wd r g), .int .i64 c] w fun e w' => e = .returned (.bool (scG g h c)) ∧ Below w.heap.size w w' := by
  have hP := HeldB.new w 44 (planC h wd r g)
  have hb0 := below_alloc w (.cells (planC h wd r g) 44)
  have c0 := (hP.cell 0).trans (planC_0 _ _ _ _)
  have HAT := Lib.hid (fun i (hi : i < 6) => planC_at h wd r g i c hi h6)
  obtain ⟨d, hd⟩ : ∃ d, d = c - 1 := ⟨_, rfl⟩
  have HAT2 := Lib.hid (fun i (hi : i < 6) => planC_at h wd r g i d hi (by omega))
  have e1 : (c : Int) - 1 = (d : Int) := by omega
  have hd6 : d < 6 := by omega
  have hsc : scG g h c = (List.range h).all fun i => g i c == g i d := by rw [hd]; rfl
  rw [hsc]
  clear hsc hd h1
  generalize planC h wd r g = C at *
  go_enter Try.func69, Try.ntmps69
  go_wp2
  go_loopw [8] (fun vk wr => ∃ (k : Nat), k ≤ h ∧ vk = .int .i64 k ∧ Hid (∀ i, i < k → g i c = g i d) ∧ HeldB wr w.heap.size 44 C ∧ Below w.heap.size w wr) (fun vk _ => h - (intOf vk).toNat)
  case atStart => exact ⟨0, Nat.zero_le _, rfl, Lib.hid (fun i hi => by omega), hP, hb0⟩
  case round =>
    clear hP hb0 c0
    obtain ⟨k, hk, rfl, hall, hP, hb⟩ := hrel
    by_cases hlt : k < h
    · have hk6 : k < 6 := by omega
      have q1 : wr.cell? ⟨w.heap.size, 3 + k * 6 + c, none⟩ = some (.int .i64 (g k c : Nat)) := (hP.cell _).trans (HAT.out k hk6)
      have q2 : wr.cell? ⟨w.heap.size, 3 + k * 6 + d, none⟩ = some (.int .i64 (g k d : Nat)) := (hP.cell _).trans (HAT2.out k hk6)
      by_cases hx : g k c = g k d
      · have hne : (((g k c : Nat) : Int) != ((g k d : Nat) : Int)) = false := by rw [bne_eq_false_iff_eq]; omega
        have hbe : (((g k c : Nat) : Int) == ((g k d : Nat) : Int)) = true := beq_iff_eq.2 (by omega)
        have HX := Lib.hid hx; clear hx
        have HA2 := Lib.hid (rows_step (P := fun i => g i c = g i d) hall.out HX.out)
        generalize g k c = x at *
        generalize g k d = y at *
        go_wp2
        go_quiet (fail)
        go_wp2
        go_roundw
        case rel => exact ⟨k + 1, by omega, by go_num, HA2, hP, hb.trans (below_drewN _ _ _)⟩
        case measure => simp [intOf]; omega
      · have hne : (((g k c : Nat) : Int) != ((g k d : Nat) : Int)) = true := by rw [bne_iff_ne]; omega
        have hbe : (((g k c : Nat) : Int) == ((g k d : Nat) : Int)) = false := beq_eq_false_iff_ne.2 (by omega)
        have HF := Lib.hid (show ((List.range h).all fun i => g i c == g i d) = false by
          rw [Bool.eq_false_iff]; intro ha; rw [List.all_eq_true] at ha; exact hx (by simpa using ha k (List.mem_range.2 hlt)))
        clear hx
        generalize g k c = x at *
        generalize g k d = y at *
        go_wp2
        go_quiet (fail)
        go_wp2
        go_ret
        exact ⟨by rw [HF.out]; rfl, hb.trans (below_drewN _ _ _)⟩
    · obtain rfl : k = h := by omega
      have HF := Lib.hid (show ((List.range k).all fun i => g i c == g i d) = true by
        rw [List.all_eq_true]; intro i hi; rw [hall.out i (List.mem_range.1 hi)]; simp)
      go_wp2
      go_ret
      exact ⟨by rw [HF.out]; rfl, hb⟩

/-- numbers as the program keeps them -/
def natV (l : List Nat) : List Value := (l.map fun n : Nat => (n : Int)).map (Value.int .i64)

set_option maxHeartbeats 400000 in
theorem tightMark_any (B KR KC h wd r nr nc cr cc : Nat) (ra ca : Option Addr) (g : Nat → Nat → Nat) (LR LC : List Nat) (w : World) (hB : HeldB w B 44 (planC h wd r g)) (hR : HeldB w KR 25 #[.slice ra nr cr]) (hC : HeldB w KC 25 #[.slice ca nc cc])
    (hRc : CellsAt w ra (natV LR)) (hCc : CellsAt w ca (natV LC)) (i j : Nat) (hi : i < nr) (hj : j < nc) (hnr : LR.length = nr) (hnc : LC.length = nc) (hR6 : LR.getD i 0 < 6) (hC6 : LC.getD j 0 < 6) :
    Calls Try.prog 71 #[.int .i64 i, .int .i64 j, .pointer (some ⟨B, 0, none⟩), .pointer (some ⟨KR, 0, none⟩), .pointer (some ⟨KC, 0, none⟩)] w
      fun e w' => e = .returned (.int .i64 (g (LR.getD i 0) (LC.getD j 0) : Nat)) ∧ Below w.heap.size w w' := by
  have cR : w.cell? ⟨KR, 0, none⟩ = some (.slice ra nr cr) := hR.cell 0
  have cC : w.cell? ⟨KC, 0, none⟩ = some (.slice ca nc cc) := hC.cell 0
  obtain ⟨b1, o1, rfl, k1⟩ := hRc.int i (by rw [List.length_map, hnr]; exact hi)
  obtain ⟨b2, o2, rfl, k2⟩ := hCc.int j (by rw [List.length_map, hnc]; exact hj)
  have e1 : (LR.map fun n : Nat => (n : Int)).getD i 0 = ((LR.getD i 0 : Nat) : Int) := by
    have : i < LR.length := by omega
    simp [this]
  have e2 : (LC.map fun n : Nat => (n : Int)).getD j 0 = ((LC.getD j 0 : Nat) : Int) := by
    have : j < LC.length := by omega
    simp [this]
  rw [e1] at k1
  rw [e2] at k2
  have cc : w.cell? ⟨B, 3 + (LR.getD i 0) * 6 + LC.getD j 0, none⟩ = some (.int .i64 (g (LR.getD i 0) (LC.getD j 0) : Nat)) := (hB.cell _).trans (planC_at _ _ _ _ _ _ hR6 hC6)
  generalize LR.getD i 0 = a at *
  generalize LC.getD j 0 = b at *
  have hi0 : (0 : Int) ≤ (i : Int) := Int.natCast_nonneg _
  have hj0 : (0 : Int) ≤ (j : Int) := Int.natCast_nonneg _
  have hi1 : (i : Int) < (nr : Int) := by omega
  have hj1 : (j : Int) < (nc : Int) := by omega
  clear hB hR hC hRc hCc e1 e2 hnr hnc
  go_enter Try.func71, Try.ntmps71
  go_wp2
  go_quiet (fail)
  go_wp2
  go_ret
  exact ⟨rfl, below_drewN _ _ _⟩

theorem natV_len (l : List Nat) : (natV l).length = l.length := by simp [natV]
theorem natV_snoc (l : List Nat) (n : Nat) : natV (l ++ [n]) = natV l ++ [.int .i64 (n : Int)] := by simp [natV]
theorem Try.infoNum : (Try.prog.info? 3).map (fun i => (i.zero, i.size, i.bytes)) = some (some (.int .i64 0), 1, 8) := by kernel_rfl
theorem Try.sizeSix : (Try.prog.info? 41).map (·.size) = some 6 := by kernel_rfl

theorem six_range {wr : World} {B h wd r : Nat} {g : Nat → Nat → Nat} (hP : HeldB wr B 44 (planC h wd r g)) {k : Nat} (hk : k < 6) : ∀ w', (∃ n, w' = wr.drewN n) → w'.rangeAt B (3 + k * 6) (six fun j => (g k j : Nat)) := by
  rintro _ ⟨n, rfl⟩ j v hv
  have hj : j < 6 := by
    rcases Nat.lt_or_ge j 6 with h' | h'
    · exact h'
    · unfold six at hv
      rw [List.getElem?_eq_none (by simpa using h')] at hv
      cases hv
  have hv2 : v = .int .i64 (g k j : Nat) := by
    unfold six at hv
    simp [hj] at hv
    exact hv.symm
  rw [hv2]
  exact (hP.cell _).trans (planC_at _ _ _ _ k j hk hj)

theorem six_sr (g : Nat → Nat → Nat) (k d : Nat) (h : d = k - 1) : sixB (fun j => (g k j : Nat)) (fun j => (g d j : Nat)) = srG g k := by
  subst h
  unfold sixB srG
  congr 1
  funext j
  rw [Bool.eq_iff_iff]
  simp
  omega

/-- what lies in the program's memory while rows and columns are told apart -/
structure TightSt (w wr : World) (C : Array Value) (ro : Option Addr) (rc : Nat) (LR : List Nat) (co : Option Addr) (cc : Nat) (LC : List Nat) : Prop where
  plan : HeldB wr w.heap.size 44 C
  zero : HeldB wr (w.heap.size + 1) 44 zeroC
  rcell : HeldB wr (w.heap.size + 1 + 1) 25 #[.slice ro LR.length rc]
  ccell : HeldB wr (w.heap.size + 1 + 1 + 1) 25 #[.slice co LC.length cc]
  rows : wr.ownsRow (w.heap.size + 4) 3 1 (.slice ro LR.length rc) LR.length (natV LR)
  cols : wr.ownsRow (w.heap.size + 4) 3 1 (.slice co LC.length cc) LC.length (natV LC)
  apart : Apart ro co
  below : Below w.heap.size w wr
  size : w.heap.size + 4 ≤ wr.heap.size

theorem TightSt.step {w wr w2 : World} {C : Array Value} {ro : Option Addr} {rc : Nat} {LR : List Nat} {co : Option Addr} {cc : Nat} {LC : List Nat} (h : TightSt w wr C ro rc LR co cc LC) (hb : Below wr.heap.size wr w2) : TightSt w w2 C ro rc LR co cc LC :=
  ⟨h.plan.below hb, h.zero.below hb, h.rcell.below hb, h.ccell.below hb, ownsRow_below h.rows hb, ownsRow_below h.cols hb, h.apart, below_step h.below h.below.size hb, Nat.le_trans h.size hb.size⟩
theorem TightSt.drewN {w wr : World} {C : Array Value} {ro : Option Addr} {rc : Nat} {LR : List Nat} {co : Option Addr} {cc : Nat} {LC : List Nat} (h : TightSt w wr C ro rc LR co cc LC) (n : Nat) : TightSt w (wr.drewN n) C ro rc LR co cc LC :=
  h.step (below_drewN _ _ _)

theorem heldB_low {w w2 : World} {N B : Nat} {t : TypeId} {cs : Array Value} (h : HeldB w B t cs) (hb : Below N w w2) (hB : B < N) : HeldB w2 B t cs := (hb.block B hB).trans h

/-- behind an append to the rows -/
theorem TightSt.pushR {w wr w2 : World} {C : Array Value} {ro : Option Addr} {rc : Nat} {LR : List Nat} {co : Option Addr} {cc : Nat} {LC : List Nat} (h : TightSt w wr C ro rc LR co cc LC) {o : Obj} {ro2 : Option Addr} {rc2 i : Nat}
    (hown : w2.ownsRow (w.heap.size + 4) 3 1 (.slice ro2 (LR.length + 1) rc2) (LR.length + 1) (natV LR ++ [.int .i64 (i : Int)])) (hg : (wr.alloc o).grownBy w2 (Value.ownBlock (.slice ro LR.length rc))) (hn : NewOr (wr.alloc o) ro ro2) :
    TightSt w (w2.setCell ⟨w.heap.size + 1 + 1, 0, none⟩ (.slice ro2 (LR.length + 1) rc2)) C ro2 rc2 (LR ++ [i]) co cc LC := by
  have hb4 : Below (w.heap.size + 4) wr w2 := below_push (Below.refl _ wr) h.size hg (fun a ha => (owns_lt h.rows a ha).1)
  have hlen : (LR ++ [i]).length = LR.length + 1 := by simp
  have hcols : w2.ownsRow (w.heap.size + 4) 3 1 (.slice co LC.length cc) LC.length (natV LC) := owns_push_other h.cols hg h.apart.symm
  refine ⟨?_, ?_, ?_, ?_, ?_, ?_, ?_, ?_, ?_⟩
  · exact (heldB_low h.plan hb4 (by omega)).other (by first | (simp; done) | (simp; omega)) _
  · exact (heldB_low h.zero hb4 (by omega)).other (by simp) _
  · rw [hlen]; exact (heldB_low h.rcell hb4 (by omega)).set1 _
  · exact (heldB_low h.ccell hb4 (by omega)).other (by simp) _
  · rw [hlen, natV_snoc]; exact ownsRow_setCell_below hown (by first | (simp; done) | (simp; omega)) _
  · exact ownsRow_setCell_below hcols (by first | (simp; done) | (simp; omega)) _
  · exact apart_push h.apart hn (fun b hb => (owns_lt h.cols b hb).2)
  · exact (h.below.trans (hb4.mono (by omega))).setCell (by first | (simp; done) | (simp; omega)) _
  · have := hb4.size; have := h.size; show w.heap.size + 4 ≤ (w2.setCell _ _).heap.size; simp; omega
theorem TightSt.pushC {w wr w2 : World} {C : Array Value} {ro : Option Addr} {rc : Nat} {LR : List Nat} {co : Option Addr} {cc : Nat} {LC : List Nat} (h : TightSt w wr C ro rc LR co cc LC) {o : Obj} {co2 : Option Addr} {cc2 i : Nat}
    (hown : w2.ownsRow (w.heap.size + 4) 3 1 (.slice co2 (LC.length + 1) cc2) (LC.length + 1) (natV LC ++ [.int .i64 (i : Int)])) (hg : (wr.alloc o).grownBy w2 (Value.ownBlock (.slice co LC.length cc))) (hn : NewOr (wr.alloc o) co co2) :
    TightSt w (w2.setCell ⟨w.heap.size + 1 + 1 + 1, 0, none⟩ (.slice co2 (LC.length + 1) cc2)) C ro rc LR co2 cc2 (LC ++ [i]) := by
  have hb4 : Below (w.heap.size + 4) wr w2 := below_push (Below.refl _ wr) h.size hg (fun a ha => (owns_lt h.cols a ha).1)
  have hlen : (LC ++ [i]).length = LC.length + 1 := by simp
  have hrows : w2.ownsRow (w.heap.size + 4) 3 1 (.slice ro LR.length rc) LR.length (natV LR) := owns_push_other h.rows hg h.apart
  refine ⟨?_, ?_, ?_, ?_, ?_, ?_, ?_, ?_, ?_⟩
  · exact (heldB_low h.plan hb4 (by omega)).other (by first | (simp; done) | (simp; omega)) _
  · exact (heldB_low h.zero hb4 (by omega)).other (by simp) _
  · exact (heldB_low h.rcell hb4 (by omega)).other (by simp) _
  · rw [hlen]; exact (heldB_low h.ccell hb4 (by omega)).set1 _
  · exact ownsRow_setCell_below hrows (by first | (simp; done) | (simp; omega)) _
  · rw [hlen, natV_snoc]; exact ownsRow_setCell_below hown (by first | (simp; done) | (simp; omega)) _
  · exact (apart_push h.apart.symm hn (fun b hb => (owns_lt h.rows b hb).2)).symm
  · exact (h.below.trans (hb4.mono (by omega))).setCell (by first | (simp; done) | (simp; omega)) _
  · have := hb4.size; have := h.size; show w.heap.size + 4 ≤ (w2.setCell _ _).heap.size; simp; omega

set_option maxRecDepth 100000 in
set_option maxHeartbeats 4000000 in
theorem tight_any (h wd r : Nat) (g : Nat → Nat → Nat) (w : World) (h1 : 1 ≤ h) (hh : h ≤ 6) (w1 : 1 ≤ wd) (hw : wd ≤ 6) (hg : ∀ i j, g i j < 26) :
    Calls Try.prog 37 #[.agg (planC h wd r g)] w
      fun e w' => e = .returned (.tuple #[.agg (drawC (keepL (srG g) h).length (keepL (scG g h) wd).length (tightM g (srG g) (scG g h) h wd)), .bool (drawOk (keepL (srG g) h).length (keepL (scG g h) wd).length (tightM g (srG g) (scG g h) h wd))]) ∧ Below w.heap.size w w' := by
  have hP := (((HeldB.new w 44 (planC h wd r g)).alloc (.cells zeroC 44)).alloc (.cells #[.slice none 0 0] 25)).alloc (.cells #[.slice none 0 0] 25)
  have hZ := ((HeldB.new (w.alloc (.cells (planC h wd r g) 44)) 44 zeroC).alloc (.cells #[.slice none 0 0] 25)).alloc (.cells #[.slice none 0 0] 25)
  have hR := (HeldB.new ((w.alloc (.cells (planC h wd r g) 44)).alloc (.cells zeroC 44)) 25 #[.slice none 0 0]).alloc (.cells #[.slice none 0 0] 25)
  have hC := HeldB.new (((w.alloc (.cells (planC h wd r g) 44)).alloc (.cells zeroC 44)).alloc (.cells #[.slice none 0 0] 25)) 25 #[.slice none 0 0]
  simp only [World.size_alloc] at hZ hR hC
  have hb0 : Below w.heap.size w ((((w.alloc (.cells (planC h wd r g) 44)).alloc (.cells zeroC 44)).alloc (.cells #[.slice none 0 0] 25)).alloc (.cells #[.slice none 0 0] 25)) := (((((Below.refl _ w).alloc (Nat.le_refl _) _).alloc (by simp) _).alloc (by simp; omega) _).alloc (by simp; omega) _)
  have hsz0 : ((((w.alloc (.cells (planC h wd r g) 44)).alloc (.cells zeroC 44)).alloc (.cells #[.slice none 0 0] 25)).alloc (.cells #[.slice none 0 0] 25)).heap.size = w.heap.size + 4 := by simp
  have c0 := (hP.cell 0).trans (planC_0 _ _ _ _)
  have HSR := Lib.hid (fun wr (hP : HeldB wr w.heap.size 44 (planC h wd r g)) k (hk : k < 6) => six_range hP hk)
  have HPS := Lib.hid (plan_size h wd r g)
  have H0 := Lib.hid (planC_0 h wd r g)
  have H1 := Lib.hid (planC_1 h wd r g)
  have HRC := Lib.hid (fun c (q1 : 1 ≤ c) (q2 : c < 6) W => repeatsColumn_any h wd r c g W hh q1 q2)
  obtain ⟨it, hti, htz, ht1, ht2⟩ := info_parts Try.infoNum
  have HDR := Lib.hid (fun (wr : World) (ro co : Option Addr) (rc cc : Nat) (hst : TightSt w wr (planC h wd r g) ro rc (keepL (srG g) h) co cc (keepL (scG g h) wd)) => drawPlan_any 71 #[.pointer (some ⟨w.heap.size, 0, none⟩), .pointer (some ⟨w.heap.size + 1 + 1, 0, none⟩), .pointer (some ⟨w.heap.size + 1 + 1 + 1, 0, none⟩)]
    (keepL (srG g) h).length (keepL (scG g h) wd).length (tightM g (srG g) (scG g h) h wd) wr Try.call71 (fun i j => hg _ _)
    (fun W2 hb2 i j hi hj => tightMark_any w.heap.size (w.heap.size + 1 + 1) (w.heap.size + 1 + 1 + 1) h wd r _ _ rc cc ro co g (keepL (srG g) h) (keepL (scG g h) wd) W2 (hst.plan.below hb2) (hst.rcell.below hb2) (hst.ccell.below hb2) ((owns_cells hst.rows).below hb2) ((owns_cells hst.cols).below hb2) i j (by omega) (by omega) rfl rfl
      (Nat.lt_of_lt_of_le (nthK_lt (same := srG g) (n := h) (t := i) (by omega)) hh) (Nat.lt_of_lt_of_le (nthK_lt (same := scG g h) (n := wd) (t := j) (by omega)) hw)))
  have HS := Lib.hid (drawC_size (keepL (srG g) h).length (keepL (scG g h) wd).length (tightM g (srG g) (scG g h) h wd))
  have H39 := Lib.hid (drawC_39 (keepL (srG g) h).length (keepL (scG g h) wd).length (tightM g (srG g) (scG g h) h wd))
  have HO := Lib.hid (drawC_one (keepL (srG g) h).length (keepL (scG g h) wd).length (tightM g (srG g) (scG g h) h wd))
  generalize drawC (keepL (srG g) h).length (keepL (scG g h) wd).length (tightM g (srG g) (scG g h) h wd) = D at *
  generalize drawOk (keepL (srG g) h).length (keepL (scG g h) wd).length (tightM g (srG g) (scG g h) h wd) = bd at *
  generalize planC h wd r g = C at *
  go_enter Try.func37, Try.ntmps37
  go_wp2_with (first
    | (refine wpList_alloc_zero rfl 44 rfl zeroC zero_plan ?_))
  obtain ⟨W0, hW0⟩ : ∃ W0, (((w.alloc (.cells C 44)).alloc (.cells zeroC 44)).alloc (.cells #[.slice none 0 0] 25)).alloc (.cells #[.slice none 0 0] 25) = W0 := ⟨_, rfl⟩
  rw [hW0] at hP hZ hR hC hb0 hsz0 c0 ⊢
  have hst0 : TightSt w W0 C none 0 (keepL (srG g) 0) none 0 (keepL (scG g h) 0) := ⟨hP, hZ, hR, hC, ⟨rfl, .inl ⟨rfl, rfl⟩⟩, ⟨rfl, .inl ⟨rfl, rfl⟩⟩, apart_nil _, hb0, by omega⟩
  clear hW0 hP hZ hR hC hb0 hsz0
  go_loopw [10] (fun vk wr => ∃ (k : Nat) (ro : Option Addr) (rc : Nat), k ≤ h ∧ vk = .int .i64 k ∧ TightSt w wr C ro rc (keepL (srG g) k) none 0 (keepL (scG g h) 0)) (fun vk _ => h - (intOf vk).toNat)
  case atStart => exact ⟨0, _, _, Nat.zero_le _, rfl, hst0⟩
  case round =>
    clear hst0 c0
    obtain ⟨k, ro, rc, hk, rfl, hst⟩ := hrel
    by_cases hlt : k < h
    · have hk6 : k < 6 := by omega
      cases hkk : (k == 0 || !srG g k)
      · have HNO := Lib.hid (keepL_no hkk)
        rw [Bool.or_eq_false_iff] at hkk
        have hk0 : 0 < k := by have := hkk.1; simp at this; omega
        have hs : srG g k = true := by simpa using hkk.2
        obtain ⟨d, hd⟩ : ∃ d, d = k - 1 := ⟨k - 1, rfl⟩
        have hsix := (six_sr g k d hd).trans hs
        have e1 : (k : Int) - 1 = (d : Int) := by omega
        have hd0 : ((k : Int) == 0) = false := beq_eq_false_iff_ne.2 (by omega)
        have hd6 : d < 6 := by omega
        have R1 := Lib.hid (HSR.out _ hst.plan k hk6)
        have R2 := Lib.hid (HSR.out _ hst.plan d hd6)
        have HST := Lib.hid hst
        have hrun := fun w => run_neq_six (fun j => (g k j : Nat)) (fun j => (g d j : Nat)) w
        rw [hsix] at hrun
        obtain ⟨A1, hA1⟩ : ∃ A1, (six fun j => (g k j : Nat)).toArray = A1 := ⟨_, rfl⟩
        obtain ⟨A2, hA2⟩ : ∃ A2, (six fun j => (g d j : Nat)).toArray = A2 := ⟨_, rfl⟩
        rw [hA1, hA2] at hrun
        have HRUN := Lib.hid hrun
        have HA1 := Lib.hid hA1; have HA2 := Lib.hid hA2
        clear hkk hs hd hsix hst hrun hA1 hA2
        go_wp2
        refine wp_region_quiet_lit (by kernel_rfl) (by kernel_rfl) ?_
        repeat (first | go_big_quiet_step (fail))
        refine wpQuiet_load_mid (by rfl) 41 _ rfl w.heap.size (3 + k * 6) (by rfl) (six fun j => (g k j : Nat)) A1 HA1.out _ R1.out Try.underlying41 rfl Try.sizeSix ?_
        go_simp
        repeat (first | go_big_quiet_step (fail))
        refine wpQuiet_load_mid (by rfl) 41 _ rfl w.heap.size (3 + d * 6) (by rfl) (six fun j => (g d j : Nat)) A2 HA2.out _ R2.out Try.underlying41 rfl Try.sizeSix ?_
        go_simp
        refine wpQuiet_bin (by rfl) .neq 41 _ _ _ rfl (.bool false) (fun w => guard_six _ _ _ _ _ w) (fun w => HRUN.out w) ?_
        go_simp
        repeat (first | go_big_quiet_step (fail))
        refine wpQuiet_nil ?_
        intro nq
        go_wp2
        go_roundw
        case rel => exact ⟨k + 1, ro, rc, by omega, by go_num, by rw [HNO.out]; exact HST.out.drewN nq⟩
        case measure => simp [intOf]; omega
      · have HYES := Lib.hid (keepL_yes hkk)
        have hLk := keepL_le (srG g) k
        obtain ⟨LR, hLR⟩ : ∃ LR, keepL (srG g) k = LR := ⟨_, rfl⟩
        rw [hLR] at hst hLk
        have HYE := Lib.hid (HYES.out.trans (by rw [hLR] : _ = LR ++ [k]))
        clear HYES hLR
        have hb1' : LR.length + 1 ≤ maxLen := by unfold maxLen; omega
        have hb2' : (LR.length + 1) * 8 ≤ 140737488355328 := by omega
        by_cases hk0 : k = 0
        · subst hk0
          have HST := Lib.hid hst
          clear hkk hst
          go_wp2
          go_quiet (fail)
          obtain ⟨W1, hW1⟩ : ∃ W1, wr.drewN nq = W1 := ⟨_, rfl⟩
          have hst1 := HST.out.drewN nq
          rw [hW1] at hst1 ⊢
          clear hW1
          have hsz1 := hst1.size
          have c4 := hst1.rcell.cell 0
          have hown0 := hst1.rows
          have HST1 := Lib.hid hst1
          clear hst1
          go_wp2_with (first
            | (at_builtin; refine wpList_push _ rfl (.tmp 27) (.tmp 29) 25 rfl (w.heap.size + 4) 3 it (.int .i64 0) 8 Try.underlying25 hti htz ht1 ht2 rfl ro LR.length rc _ rfl (hown0.alloc _) _ _ _ rfl (cell_new _ _ _) rfl hb1' hb2' (by simp; omega) ?_; intro ro2 rc2 w2 hown2 hg2 hnew2; have hb4 : Below (w.heap.size + 4) W1 w2 := below_push (Below.refl _ W1) hsz1 hg2 (fun a ha => (owns_lt hown0 a ha).1); have hrc := heldB_low HST1.out.rcell hb4 (by omega); have c5 := hrc.cell 0; have f5 := hrc.frozen 0))
          have hst2 := HST1.out.pushR hown2 hg2 hnew2
          have hYE := HYE.out
          go_roundw
          case rel => exact ⟨0 + 1, ro2, rc2, by omega, by go_num, by rw [hYE]; exact hst2⟩
          case measure => simp [intOf]; omega
        · have hs : srG g k = false := by
            rw [Bool.or_eq_true] at hkk
            rcases hkk with h | h
            · simp at h; omega
            · simpa using h
          obtain ⟨d, hd⟩ : ∃ d, d = k - 1 := ⟨k - 1, rfl⟩
          have hsix := (six_sr g k d hd).trans hs
          have e1 : (k : Int) - 1 = (d : Int) := by omega
          have hd0 : ((k : Int) == 0) = false := beq_eq_false_iff_ne.2 (by omega)
          have hd6 : d < 6 := by omega
          have R1 := Lib.hid (HSR.out _ hst.plan k hk6)
          have R2 := Lib.hid (HSR.out _ hst.plan d hd6)
          have HST := Lib.hid hst
          have hrun := fun w => run_neq_six (fun j => (g k j : Nat)) (fun j => (g d j : Nat)) w
          rw [hsix] at hrun
          obtain ⟨A1, hA1⟩ : ∃ A1, (six fun j => (g k j : Nat)).toArray = A1 := ⟨_, rfl⟩
          obtain ⟨A2, hA2⟩ : ∃ A2, (six fun j => (g d j : Nat)).toArray = A2 := ⟨_, rfl⟩
          rw [hA1, hA2] at hrun
          have HRUN := Lib.hid hrun
          have HA1 := Lib.hid hA1; have HA2 := Lib.hid hA2
          clear hkk hs hd hsix hst hrun hA1 hA2 hk0
          go_wp2
          refine wp_region_quiet_lit (by kernel_rfl) (by kernel_rfl) ?_
          repeat (first | go_big_quiet_step (fail))
          refine wpQuiet_load_mid (by rfl) 41 _ rfl w.heap.size (3 + k * 6) (by rfl) (six fun j => (g k j : Nat)) A1 HA1.out _ R1.out Try.underlying41 rfl Try.sizeSix ?_
          go_simp
          repeat (first | go_big_quiet_step (fail))
          refine wpQuiet_load_mid (by rfl) 41 _ rfl w.heap.size (3 + d * 6) (by rfl) (six fun j => (g d j : Nat)) A2 HA2.out _ R2.out Try.underlying41 rfl Try.sizeSix ?_
          go_simp
          refine wpQuiet_bin (by rfl) .neq 41 _ _ _ rfl (.bool true) (fun w => guard_six _ _ _ _ _ w) (fun w => HRUN.out w) ?_
          go_simp
          repeat (first | go_big_quiet_step (fail))
          refine wpQuiet_nil ?_
          intro nq
          obtain ⟨W1, hW1⟩ : ∃ W1, wr.drewN nq = W1 := ⟨_, rfl⟩
          have hst1 := HST.out.drewN nq
          rw [hW1] at hst1 ⊢
          clear hW1
          have hsz1 := hst1.size
          have c4 := hst1.rcell.cell 0
          have hown0 := hst1.rows
          have HST1 := Lib.hid hst1
          clear hst1
          go_wp2_with (first
            | (at_builtin; refine wpList_push _ rfl (.tmp 27) (.tmp 29) 25 rfl (w.heap.size + 4) 3 it (.int .i64 0) 8 Try.underlying25 hti htz ht1 ht2 rfl ro LR.length rc _ rfl (hown0.alloc _) _ _ _ rfl (cell_new _ _ _) rfl hb1' hb2' (by simp; omega) ?_; intro ro2 rc2 w2 hown2 hg2 hnew2; have hb4 : Below (w.heap.size + 4) W1 w2 := below_push (Below.refl _ W1) hsz1 hg2 (fun a ha => (owns_lt hown0 a ha).1); have hrc := heldB_low HST1.out.rcell hb4 (by omega); have c5 := hrc.cell 0; have f5 := hrc.frozen 0))
          have hst2 := HST1.out.pushR hown2 hg2 hnew2
          have hYE := HYE.out
          go_roundw
          case rel => exact ⟨k + 1, ro2, rc2, by omega, by go_num, by rw [hYE]; exact hst2⟩
          case measure => simp [intOf]; omega
    · obtain rfl : k = h := by omega
      have c1 := (hst.plan.cell 1).trans H1.out
      obtain ⟨LR, hLR⟩ : ∃ LR, keepL (srG g) k = LR := ⟨_, rfl⟩
      have hLk := keepL_le (srG g) k
      rw [hLR] at hst HDR hLk
      clear hLR
      go_wp2
      go_loopw [34] (fun vk wr => ∃ (j : Nat) (co : Option Addr) (cc : Nat), j ≤ wd ∧ vk = .int .i64 j ∧ TightSt w wr C ro rc LR co cc (keepL (scG g k) j)) (fun vk _ => wd - (intOf vk).toNat)
      case atStart => exact ⟨0, _, _, Nat.zero_le _, rfl, hst⟩
      case round =>
        clear hst c1
        obtain ⟨j, co, cc, hj, rfl, hst⟩ := hrel
        by_cases hltj : j < wd
        · have hj6 : j < 6 := by omega
          have hPr : wr.heap[w.heap.size]? = some (.cells C 44 (0, 0)) := hst.plan
          cases hkk : (j == 0 || !scG g k j)
          · have HNO := Lib.hid (keepL_no hkk)
            rw [Bool.or_eq_false_iff] at hkk
            have hj0 : 0 < j := by have := hkk.1; simp at this; omega
            have hs : scG g k j = true := by simpa using hkk.2
            have hd0 : ((j : Int) == 0) = false := beq_eq_false_iff_ne.2 (by omega)
            have HST := Lib.hid hst
            clear hkk hst
            go_wp2_with (first
              | (refine wpList_load_row_guard (by rfl) 44 _ rfl w.heap.size rfl 44 C (0, 0) _ hPr Try.underlying44 rfl HPS.out ?_))
            refine (HRC.out j hj0 hj6 _).mono ?_
            rw [hs]
            rintro e w3 ⟨rfl, hb3⟩
            go_wp2
            go_roundw
            case rel => exact ⟨j + 1, co, cc, by omega, by go_num, by rw [HNO.out]; exact HST.out.step hb3⟩
            case measure => simp [intOf]; omega
          · have HYES := Lib.hid (keepL_yes hkk)
            have hLj := keepL_le (scG g k) j
            obtain ⟨LC, hLC⟩ : ∃ LC, keepL (scG g k) j = LC := ⟨_, rfl⟩
            rw [hLC] at hst hLj
            have HYE := Lib.hid (HYES.out.trans (by rw [hLC] : _ = LC ++ [j]))
            clear HYES hLC
            have hb1' : LC.length + 1 ≤ maxLen := by unfold maxLen; omega
            have hb2' : (LC.length + 1) * 8 ≤ 140737488355328 := by omega
            by_cases hj0 : j = 0
            · subst hj0
              clear hkk
              obtain ⟨W1, hW1⟩ : ∃ W1, wr = W1 := ⟨_, rfl⟩
              have hst1 := hst
              rw [hW1] at hst1 hPr ⊢
              clear hW1 hst
              have hsz1 := hst1.size
              have c4 := hst1.ccell.cell 0
              have hown0 := hst1.cols
              have HST1 := Lib.hid hst1
              clear hst1
              go_wp2_with (first
                | (at_builtin; refine wpList_push _ rfl (.tmp 45) (.tmp 47) 25 rfl (w.heap.size + 4) 3 it (.int .i64 0) 8 Try.underlying25 hti htz ht1 ht2 rfl co LC.length cc _ rfl (hown0.alloc _) _ _ _ rfl (cell_new _ _ _) rfl hb1' hb2' (by simp; omega) ?_; intro co2 cc2 w2 hown2 hg2 hnew2; have hb4 : Below (w.heap.size + 4) W1 w2 := below_push (Below.refl _ W1) hsz1 hg2 (fun a ha => (owns_lt hown0 a ha).1); have hrc := heldB_low HST1.out.ccell hb4 (by omega); have c5 := hrc.cell 0; have f5 := hrc.frozen 0))
              have hst2 := HST1.out.pushC hown2 hg2 hnew2
              have hYE := HYE.out
              go_roundw
              case rel => exact ⟨0 + 1, co2, cc2, by omega, by go_num, by rw [hYE]; exact hst2⟩
              case measure => simp [intOf]; omega
            · have hs : scG g k j = false := by
                rw [Bool.or_eq_true] at hkk
                rcases hkk with h | h
                · simp at h; omega
                · simpa using h
              have hd0 : ((j : Int) == 0) = false := beq_eq_false_iff_ne.2 (by omega)
              have hj1 : 1 ≤ j := by omega
              have HST := Lib.hid hst
              clear hkk hst hj0
              go_wp2_with (first
                | (refine wpList_load_row_guard (by rfl) 44 _ rfl w.heap.size rfl 44 C (0, 0) _ hPr Try.underlying44 rfl HPS.out ?_))
              refine (HRC.out j hj1 hj6 _).mono ?_
              rw [hs]
              rintro e W1 ⟨rfl, hb3⟩
              have hst1 := HST.out.step hb3
              have hsz1 := hst1.size
              have c4 := hst1.ccell.cell 0
              have hown0 := hst1.cols
              have HST1 := Lib.hid hst1
              clear hst1
              go_wp2_with (first
                | (at_builtin; refine wpList_push _ rfl (.tmp 45) (.tmp 47) 25 rfl (w.heap.size + 4) 3 it (.int .i64 0) 8 Try.underlying25 hti htz ht1 ht2 rfl co LC.length cc _ rfl (hown0.alloc _) _ _ _ rfl (cell_new _ _ _) rfl hb1' hb2' (by simp; omega) ?_; intro co2 cc2 w2 hown2 hg2 hnew2; have hb4 : Below (w.heap.size + 4) W1 w2 := below_push (Below.refl _ W1) hsz1 hg2 (fun a ha => (owns_lt hown0 a ha).1); have hrc := heldB_low HST1.out.ccell hb4 (by omega); have c5 := hrc.cell 0; have f5 := hrc.frozen 0))
              have hst2 := HST1.out.pushC hown2 hg2 hnew2
              have hYE := HYE.out
              go_roundw
              case rel => exact ⟨j + 1, co2, cc2, by omega, by go_num, by rw [hYE]; exact hst2⟩
              case measure => simp [intOf]; omega
        · obtain rfl : j = wd := by omega
          have hZ := hst.zero
          have cR := hst.rcell.cell 0
          have cC := hst.ccell.cell 0
          have hB := hst.below
          have HZ := Lib.hid hZ
          have HDR2 := Lib.hid (HDR.out _ _ _ _ _ hst)
          obtain ⟨LC, hLC⟩ : ∃ LC, keepL (scG g k) j = LC := ⟨_, rfl⟩
          have hLj := keepL_le (scG g k) j
          rw [hLC] at cC HDR2 hLj
          clear hst hZ hLC HDR
          go_wp2_with fail
          refine (HDR2.out).mono ?_
          rintro e w4 ⟨rfl, hb4⟩
          have hZ4 := HZ.out.below hb4
          have hrow : w4.heap[w.heap.size + 1]? = some (.cells zeroC 44 (0, 0)) := hZ4
          go_wp2_with (refine wpList_store_row rfl 44 _ _ rfl (w.heap.size + 1) D rfl rfl _ _ hrow HS.out (by rw [H39.out]; rfl) HO.out ?_)
          refine bodyPost_ret (results_plan rfl rfl (hZ4.setRow D) H39.out rfl) rfl ⟨rfl, below_setRowB (below_step hB hB.size hb4) (by omega) _⟩

end Go.Proofs.Ytamfnahbhhmiiaa

/-
  The model leaves out rows, and then columns. (Walks.)
-/
namespace Go.Proofs.Ytamfnahbhhmiiaa
open Go.RowKit

def onceT (p : List ByteArray) (i : Nat) : List ByteArray := (keepL (sameB p) i).map fun i => p.getD i ByteArray.empty
theorem onceT_len (p : List ByteArray) (i : Nat) : (onceT p i).length = (keepL (sameB p) i).length := by simp [onceT]
theorem onceT_yes {p : List ByteArray} {i : Nat} (h : (i == 0 || !sameB p i) = true) : (onceT p (i + 1)).map Value.string = (onceT p i).map Value.string ++ [.string (p.getD i ByteArray.empty)] := by
  unfold onceT; rw [keepL_yes h]; simp
theorem onceT_no {p : List ByteArray} {i : Nat} (h : (i == 0 || !sameB p i) = false) : onceT p (i + 1) = onceT p i := by
  unfold onceT; rw [keepL_no h]

theorem onceB_even {p : List ByteArray} (he : Even p) (h1 : 1 ≤ p.length) : Even (onceB p) ∧ wideB (onceB p) = wideB p := by
  have hpos := keepL_pos (sameB p) h1
  have hat : ∀ i, i < (onceB p).length → (onceB p).getD i ByteArray.empty = p.getD (nthK (sameB p) p.length i) ByteArray.empty := fun i hi => by
    rw [← onceB_at hi]; simp [hi]
  have h0 : 0 < (onceB p).length := by rw [onceB_len]; omega
  have hw : wideB (onceB p) = wideB p := by
    show ((onceB p).getD 0 ByteArray.empty).size = wideB p
    rw [hat 0 h0]
    exact he _ (nthK_lt (by rw [onceB_len] at h0; exact h0))
  refine ⟨fun i hi => ?_, hw⟩
  rw [hw, hat i hi]
  exact he _ (nthK_lt (by rw [onceB_len] at hi; exact hi))

end Go.Proofs.Ytamfnahbhhmiiaa

/-
  Plans made tight: the program's answer. (Walk.)
-/
namespace Go.Proofs.Ytamfnahbhhmiiaa
open Go.RowKit

theorem tight_few (p : List ByteArray) : (orNone (planB p) (tightB p)).length ≤ 1048576 := by
  cases h : planB p
  · rw [orNone_no rfl]; exact Nat.zero_le _
  · rw [orNone_yes rfl, (tight_math h).2, rowsT_len]
    have := keepL_le (srG (gridG p)) p.length
    have := (planP_of h).grid.h6
    omega

set_option maxHeartbeats 400000 in
theorem implTight_any (ao : Option Addr) (cap : Nat) (p : List ByteArray) (w : World) (hl : p.length ≤ 1048576) (hs : ∀ s ∈ p, s.size ≤ 1048576) (hc : CellsAt w ao (p.map Value.string)) :
    Calls Try.prog 14 #[.slice ao p.length cap] w fun e w' => TextsRet w.heap.size (orNone (planB p) (tightB p)) (planB p) e w' ∧ Below w.heap.size w w' := by
  obtain ⟨nr, hnr⟩ : ∃ nr, (keepL (srG (gridG p)) p.length).length = nr := ⟨_, rfl⟩
  obtain ⟨nc, hnc⟩ : ∃ nc, (keepL (scG (gridG p) p.length) (wideB p)).length = nc := ⟨_, rfl⟩
  obtain ⟨m, hm⟩ : ∃ m, tightM (gridG p) (srG (gridG p)) (scG (gridG p) p.length) p.length (wideB p) = m := ⟨_, rfl⟩
  have hT : planB p = (readOk p && drawOk nr nc m) ∧ orNone (planB p) (tightB p) = orNone (readOk p && drawOk nr nc m) (rowsT nr nc (renG nr nc m)) := by
    rw [readOk_eq]
    cases hp : planB p
    · rw [Bool.false_and, orNone_no rfl, orNone_no rfl]
      exact ⟨rfl, rfl⟩
    · have := tight_math hp
      rw [hnr, hnc, hm] at this
      rw [this.1, this.2]; exact ⟨rfl, rfl⟩
  have HM := Lib.hid (fun (hr : readOk p = true) (W : World) => by
    have hd := nameDraw_dims (ok_of_read hr)
    have hg := read_dims hr
    have := tight_any p.length (wideB p) (gridR p) (gridG p) W hd.2.1.1 hg.1 hd.2.2.1.1 hg.2.1 (fun i j => Nat.lt_of_le_of_lt (hg.2.2 i j) (by omega))
    rw [hnr, hnc, hm, ← readC_ok hr] at this
    exact this)
  clear hnr hnc hm
  have HR := Lib.hid (fun w => redraw_any 37 #[] (drawOk nr nc m) (drawC nr nc m) nr nc (markF nr nc m).length (renG nr nc m) ao cap p w hl hs)
  rw [hT.2, hT.1]
  clear hT
  go_enter Try.func14, Try.ntmps14
  go_wp2_with (go_at_call 36; refine (HR.out _ hc Try.call37 (fun hr W _ => HM.out hr W) drawC_ok).mono ?_; rintro e w1 ⟨⟨ro, rc, rfl, hown1⟩, hb1⟩)
  go_ret2
  exact ⟨⟨ro, rc, rfl, hown1⟩, hb1⟩

end Go.Proofs.Ytamfnahbhhmiiaa
