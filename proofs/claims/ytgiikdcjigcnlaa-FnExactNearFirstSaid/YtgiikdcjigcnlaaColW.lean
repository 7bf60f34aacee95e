
/-
  The first colours of rooms, the least number of them: the program's answers. (Walks.)
-/
import Derived.Test.YtgiikdcjigcnlaaColR
import Derived.Test.YtgiikdcjigcnlaaColT
import Derived.Test.YtgiikdcjigcnlaaBfsF
import Derived.Laws.EntriesVeiled

namespace Go.Proofs.Ytgiikdcjigcnlaa
open Go.RowKit

set_option maxRecDepth 100000 in
set_option maxHeartbeats 2000000 in
theorem colourWith_any (Q n c Rb many : Nat) (f : Nat → Nat → Nat) (near : Nat → Nat → Bool) (hn : ∀ a b, near a b = decide (0 < f a b)) (K : Nat → Prop) (so : Nat → Option Addr) (sc : Nat → Nat) (w : World) (h9 : n ≤ 9) (hm : many ≤ 9)
    (h : ChB w Q n f K so sc) (hp : CellsAt w (some ⟨Rb, 0, none⟩) (ptrs Q n)) :
    Calls Try.prog 45 #[.slice (some ⟨Rb, 0, none⟩) n c, .int .i64 many] w
      fun e w' => ColRet w.heap.size (colS near many n []) e w' ∧ Below w.heap.size w w' := by
  obtain ⟨it, hti, htz, ht1, ht2⟩ := info_parts Try.infoNum
  have eg := enters_of Try.func54 (by kernel_rfl) rfl
  have hB2 : Below w.heap.size w ((w.alloc (.cells #[.slice (some ⟨Rb, 0, none⟩) n c] 38)).alloc (.cells #[.int .i64 (many : Nat)] 3)) := (below_alloc w _).trans ((below_alloc _ _).mono (by simp))
  have hT2 := (HeldB.new w 38 #[.slice (some ⟨Rb, 0, none⟩) n c]).alloc (.cells #[.int .i64 (many : Nat)] 3)
  have hM2 := HeldB.new (w.alloc (.cells #[.slice (some ⟨Rb, 0, none⟩) n c] 38)) 3 #[.int .i64 (many : Nat)]
  rw [World.size_alloc] at hM2
  have HCR := Lib.hid (fun U T M Fn g cc wr hst => colourRest_any Q n c Rb many U T M Fn f near hn K so sc w h9 hm h hp n [] g cc wr (Nat.zero_add _) hst)
  clear h hp hn
  generalize hres : colS near many n [] = R at *
  clear hres
  go_enter Try.func45, Try.ntmps45
  go_upto_region 2 with (at_make; refine wpList_make_own _ rfl _ _ 31 rfl (w.heap.size + 2) 3 it (.int .i64 0) 1 Try.underlying31 hti htz ht1 .i64 .i64 _ n rfl rfl rfl ?c2 ?c3 (by simp) ?_; rotate_left 2; intro w3 hown hgrow)
  case c2 => rw [ht2]; omega
  case c3 => unfold maxLen; omega
  have hgs := hgrow.size
  simp only [World.size_alloc] at hgs hown
  have hlo := (owns_lt hown _ rfl).2
  have hlo2 : w.heap.size + 1 + 1 < w3.heap.size := hlo
  obtain ⟨V, hV⟩ : ∃ V : Value, V = .func (.func 54) #[] #[.pointer (some ⟨w3.heap.size, 0, none⟩), .pointer (some ⟨w.heap.size, 0, none⟩), .pointer (some ⟨w.heap.size + 1, 0, none⟩), .pointer (some ⟨w3.heap.size + 1, 0, none⟩)] := ⟨_, rfl⟩
  have hB3 : Below w.heap.size w w3 := hB2.trans (below_of_grownBy hgrow (by simp; omega) (by simp))
  have hB4 := hB3.alloc hB3.size (.cells #[.slice (some ⟨w.heap.size + 1 + 1, 0, none⟩) 0 n] 31)
  have hu := (HeldB.new w3 31 #[.slice (some ⟨w.heap.size + 1 + 1, 0, none⟩) 0 n]).alloc (.cells #[.nilFunc] 80)
  have hF := HeldB.new (w3.alloc (.cells #[.slice (some ⟨w.heap.size + 1 + 1, 0, none⟩) 0 n] 31)) 80 #[.nilFunc]
  rw [World.size_alloc] at hF
  have hB5 := hB4.alloc hB4.size (.cells #[.nilFunc] 80)
  have ht := ((hT2.kept hgrow (by simp)).alloc (.cells #[.slice (some ⟨w.heap.size + 1 + 1, 0, none⟩) 0 n] 31)).alloc (.cells #[.nilFunc] 80)
  have hm' := ((hM2.kept hgrow (by simp)).alloc (.cells #[.slice (some ⟨w.heap.size + 1 + 1, 0, none⟩) 0 n] 31)).alloc (.cells #[.nilFunc] 80)
  have hrow := ownsRow_base ((hown.alloc (.cells #[.slice (some ⟨w.heap.size + 1 + 1, 0, none⟩) 0 n] 31)).alloc (.cells #[.nilFunc] 80)) (show w.heap.size ≤ w.heap.size + 2 by omega)
  generalize hW5 : (w3.alloc (.cells #[.slice (some ⟨w.heap.size + 1 + 1, 0, none⟩) 0 n] 31)).alloc (.cells #[.nilFunc] 80) = W5 at *
  have cz : W5.cell? ⟨w3.heap.size + 1, 0, none⟩ = some .nilFunc := hF.cell 0
  have fz : W5.frozen? ⟨w3.heap.size + 1, 0, none⟩ = false := hF.frozen 0
  have HW5 := Lib.hid hW5
  have hst : StP w w3.heap.size w.heap.size (w.heap.size + 1) (w3.heap.size + 1) Rb n c many [] (w.heap.size + 1 + 1) n (W5.setCell ⟨w3.heap.size + 1, 0, none⟩ V) :=
    ⟨hu.other (a := ⟨w3.heap.size + 1, 0, none⟩) (by show w3.heap.size ≠ w3.heap.size + 1; omega) _, ht.other (a := ⟨w3.heap.size + 1, 0, none⟩) (by show w.heap.size ≠ w3.heap.size + 1; omega) _, hm'.other (a := ⟨w3.heap.size + 1, 0, none⟩) (by show w.heap.size + 1 ≠ w3.heap.size + 1; omega) _,
     by rw [← hV]; exact hF.set1 _, owns_kept' hrow (fun b hb => by simp only [Option.some.injEq] at hb; subst hb; show w.heap.size + 1 + 1 ≠ w3.heap.size + 1; omega), ⟨by omega, by omega, by omega, by omega⟩, ⟨by omega, by omega, by omega, by omega⟩, hB5.setCell (p := ⟨w3.heap.size + 1, 0, none⟩) (by show w.heap.size ≤ w3.heap.size + 1; omega) _⟩
  have cf : (W5.setCell ⟨w3.heap.size + 1, 0, none⟩ V).cell? ⟨w3.heap.size + 1, 0, none⟩ = some V := (hF.set1 V).cell 0
  have HCR2 := Lib.hid (HCR.out _ _ _ _ _ _ _ hst)
  rw [hV] at HCR2 cf
  clear hst hu hF hB2 hB3 hB4 hB5 hT2 hM2 hown hgrow hgs HCR hV hW5 ht hm' hrow
  go_upto_region 3 with fail
  rw [HW5.out]
  go_wp2_with (go_at_call 54; refine (HCR2.out).mono ?_; rintro e w6 ⟨rfl, g6, cc6, hst6⟩; have cu6 := hst6.u.cell 0)
  go_ret2
  exact ⟨⟨g6, cc6, rfl, hst6.row⟩, hst6.below⟩

set_option maxRecDepth 100000 in
set_option maxHeartbeats 1000000 in
theorem firstColours_any (Q n c Rb : Nat) (f : Nat → Nat → Nat) (near : Nat → Nat → Bool) (hn : ∀ a b, near a b = decide (0 < f a b)) (K : Nat → Prop) (so : Nat → Option Addr) (sc : Nat → Nat) (w : World) (h0 : 0 < n) (h9 : n ≤ 9)
    (h : ChB w Q n f K so sc) (hp : CellsAt w (some ⟨Rb, 0, none⟩) (ptrs Q n)) :
    Calls Try.prog 30 #[.slice (some ⟨Rb, 0, none⟩) n c] w
      fun e w' => (∃ g rc, e = .returned (.slice (some ⟨g, 0, none⟩) (leastC near n).2.length rc) ∧ w'.ownsRow w.heap.size 3 1 (.slice (some ⟨g, 0, none⟩) (leastC near n).2.length rc) (leastC near n).2.length (intsN (leastC near n).2)) ∧ Below w.heap.size w w' := by
  have HCW := Lib.hid (fun (m : Nat) (hm : m ≤ n) (wr : World) (hb : Below w.heap.size w wr) => colourWith_any Q n c Rb m f near hn K so sc wr h9 (by omega) (h.below hb) (hp.below hb))
  have HEQ := Lib.hid (fun (m : Nat) (L : List Nat) (h1 : 1 ≤ m) h h2 => leastC_eq (near := near) (m := m) (L := L) h0 h1 h h2)
  have HAL := Lib.hid (colS_all (near := near) n)
  clear h hp hn
  generalize leastC near n = LP at *
  generalize hf : (fun m => colS near m n []) = F at *
  have HF := Lib.hid (show ∀ m, colS near m n [] = F m by rw [← hf]; exact fun _ => rfl)
  have HCW2 := Lib.hid (fun (m : Nat) (hm : m ≤ n) (wr : World) (hb : Below w.heap.size w wr) => show Calls Try.prog 45 #[.slice (some ⟨Rb, 0, none⟩) n c, .int .i64 (m : Nat)] wr fun e w' => ColRet wr.heap.size (F m) e w' ∧ Below wr.heap.size wr w' by rw [← HF.out]; exact HCW.out m hm wr hb)
  have HEQ2 := Lib.hid (fun (m : Nat) (L : List Nat) (h1 : 1 ≤ m) (h : ∀ i, 1 ≤ i → i < m → F i = none) (h2 : F m = some L) => HEQ.out m L h1 (fun i a b => by rw [HF.out]; exact h i a b) (by rw [HF.out]; exact h2))
  have HAL2 := Lib.hid (show (F n).isSome = true by rw [← HF.out]; exact HAL.out)
  clear HCW HEQ HAL HF hf
  go_enter Try.func30, Try.ntmps30
  go_wp2
  go_loopw [3] (fun vm wr => ∃ m : Nat, 1 ≤ m ∧ m ≤ n + 1 ∧ vm = .int .i64 m ∧ Hid (∀ i, 1 ≤ i → i < m → F i = none) ∧ Below w.heap.size w wr) (fun vm _ => n + 1 - (intOf vm).toNat)
  case atStart => exact ⟨1, Nat.le_refl _, by omega, rfl, Lib.hid (fun i h1 h2 => by omega), Below.refl _ _⟩
  case round =>
    obtain ⟨m, hm1, hmn, rfl, HPRE, hb⟩ := hrel
    by_cases hle : m ≤ n
    · have hle' : decide ((m : Int) ≤ (n : Int)) = true := by rw [decide_eq_true_eq]; omega
      have HC := Lib.hid (HCW2.out m hle wr hb)
      cases hres : F m with
      | none =>
        have HP2 := Lib.hid (show ∀ i, 1 ≤ i → i < m + 1 → F i = none from fun i h1 h2 => by
          rcases Nat.lt_succ_iff_lt_or_eq.1 h2 with h' | rfl
          · exact HPRE.out i h1 h'
          · exact hres)
        rw [hres] at HC
        clear hres
        go_wp2_with fail
        refine (HC.out).mono ?_
        rintro e w2 ⟨⟨g, rc, rfl, hrow⟩, hb2⟩
        have hb3 := below_step hb hb.size hb2
        clear HC hrow
        go_wp2
        go_roundw
        case rel => exact ⟨m + 1, by omega, by omega, by go_num, HP2, hb3⟩
        case measure => simp [intOf]; omega
      | some L =>
        have HE := Lib.hid (HEQ2.out m L hm1 HPRE.out hres)
        rw [hres] at HC
        clear hres
        go_wp2_with fail
        refine (HC.out).mono ?_
        rintro e w2 ⟨⟨g, rc, rfl, hrow⟩, hb2⟩
        have hb3 := below_step hb hb.size hb2
        have HRW := Lib.hid (ownsRow_base hrow hb.size)
        clear HC hrow
        go_wp2
        go_ret
        rw [HE.out]
        exact ⟨⟨g, rc, rfl, HRW.out⟩, hb3⟩
    · exfalso
      have h1 := HPRE.out n h0 (by omega)
      have h2 := HAL2.out
      rw [h1] at h2; cases h2

set_option maxRecDepth 100000 in
theorem firstColours_none (w : World) : Calls Try.prog 30 #[.slice none 0 0] w fun e w' => e = .returned (.slice none 0 0) ∧ w' = w := by
  go_enter Try.func30, Try.ntmps30
  go_wp2
  go_loopw [3] (fun vm wr => vm = .int .i64 1 ∧ wr = w) (fun _ _ => 0)
  case atStart => exact ⟨rfl, rfl⟩
  case round =>
    obtain ⟨rfl, rfl⟩ := hrel
    go_wp2
    go_ret
    exact ⟨rfl, rfl⟩

/-- the first list of colours -/
def firstL (p : List ByteArray) : List Int := if planB p then (leastP p).2.map (fun b : Nat => (b : Int)) else []
theorem firstL_yes {p : List ByteArray} (h : planB p = true) : firstL p = (leastP p).2.map (fun b : Nat => (b : Int)) := by unfold firstL; rw [if_pos h]
theorem firstL_few (p : List ByteArray) : (firstL p).length ≤ 1048576 := by
  unfold firstL
  split
  · rename_i h
    rw [List.length_map, leastP_len h]; have := (planP_of h).few; omega
  · decide
theorem firstL_ints {L : List Nat} : (L.map (fun b : Nat => (b : Int))).map (Value.int .i64) = intsN L := by rw [List.map_map]; rfl

theorem specNearFirst_is (ao : Option Addr) (cap : Nat) (p : List ByteArray) (w : World) (hl : p.length ≤ 1048576) (hs : ∀ s ∈ p, s.size ≤ 1048576) (hc : CellsAt w ao (p.map Value.string)) :
    Calls Try.prog 16 #[.slice ao p.length cap] w
      fun e w' => (∃ ro rc, e = .returned (.tuple #[.slice ro (firstL p).length rc, .bool (planB p)]) ∧ w'.ownsRow w.heap.size 3 1 (.slice ro (firstL p).length rc) (firstL p).length ((firstL p).map (Value.int .i64))) ∧ Below w.heap.size w w' := by
  have h := specNearFirst_any ao cap p w hl hs hc
  have e1 : (firstL p).map (Value.int .i64) = intsN (if planB p then (leastP p).2 else []) := by
    unfold firstL; split
    · exact firstL_ints
    · rfl
  have e2 : (firstL p).length = (if planB p then (leastP p).2 else []).length := by
    unfold firstL; split
    · rw [List.length_map]
    · rfl
  rw [e1, e2]; exact h

set_option maxRecDepth 100000 in
set_option maxHeartbeats 1000000 in
theorem implNearFirst_any (ao : Option Addr) (cap : Nat) (p : List ByteArray) (w : World) (hl : p.length ≤ 1048576) (hs : ∀ s ∈ p, s.size ≤ 1048576) (hc : CellsAt w ao (p.map Value.string)) :
    Calls Try.prog 17 #[.slice ao p.length cap] w fun e w' => NumsRet w.heap.size (firstL p) (planB p) e w' ∧ Below w.heap.size w w' := by
  have hask : askB p [] = planB p := by unfold askB; simp
  cases hp : planB p
  · have h0 : firstL p = [] := by unfold firstL; rw [hp]; rfl
    rw [hp] at hask
    have HR := Lib.hid (readChambers_no ao cap p none 0 [] w hl hs hc (by simp) (CellsAt.nil _ _) hask)
    have HN := Lib.hid (fun w => firstColours_none w)
    rw [h0]
    clear h0 hask
    go_enter Try.func17, Try.ntmps17
    go_wp2_with (first
      | (go_at_call 24; refine (HR.out).mono ?_; rintro e w1 ⟨rfl, hb1⟩)
      | (go_at_call 30; refine (HN.out _).mono ?_; rintro e w2 ⟨rfl, rfl⟩))
    go_ret2
    exact ⟨⟨none, 0, rfl, ⟨rfl, .inl ⟨rfl, rfl⟩⟩⟩, hb1⟩
  · rw [hp] at hask
    have HR := Lib.hid (readChambers_yes ao cap p none 0 [] w hl hs hc (by simp) (CellsAt.nil _ _) hask)
    have h9 := (planP_of hp).few
    have HFC := Lib.hid (fun (W : World) (Q c Rb : Nat) so sc (h : ChB W Q (gridR p) (nbF p) (fun k => k < Q) so sc) h2 => firstColours_any Q (gridR p) c Rb (nbF p) (nearB p) (fun a b => by unfold nearB; rw [nbF_bes hp]) _ so sc W (gridR_pos hp) h9 h h2)
    change Hid (∀ (W : World) (Q c Rb : Nat) so sc, ChB W Q (gridR p) (nbF p) (fun k => k < Q) so sc → CellsAt W (some ⟨Rb, 0, none⟩) (ptrs Q (gridR p)) → Calls Try.prog 30 #[.slice (some ⟨Rb, 0, none⟩) (gridR p) c] W
      fun e w' => (∃ g rc, e = .returned (.slice (some ⟨g, 0, none⟩) (leastP p).2.length rc) ∧ w'.ownsRow W.heap.size 3 1 (.slice (some ⟨g, 0, none⟩) (leastP p).2.length rc) (leastP p).2.length (intsN (leastP p).2)) ∧ Below W.heap.size W w') at HFC
    rw [firstL_yes hp]
    unfold Linked at HR
    have HI := Lib.hid (firstL_ints (L := (leastP p).2))
    have HLN := Lib.hid (show ((leastP p).2.map (fun b : Nat => (b : Int))).length = (leastP p).2.length from List.length_map _)
    clear hask hl hs hc hp
    generalize (leastP p).2 = L at *
    generalize nbF p = f at *
    generalize gridR p = n at *
    go_enter Try.func17, Try.ntmps17
    go_wp2_with (first
      | (go_at_call 24; refine (HR.out).mono ?_; rintro e w1 ⟨Rb, c, Q, rfl, y1, ⟨so, sc, y2⟩, y3, y4, y5⟩; have HF2 := Lib.hid (HFC.out w1 Q c Rb so sc y2 y1); clear y1 y2)
      | (go_at_call 30; refine (HF2.out).mono ?_; rintro e w2 ⟨⟨g, rc, rfl, hrow⟩, hb2⟩))
    go_ret2
    exact ⟨⟨_, _, by rw [HLN.out]; rfl, by rw [HLN.out, HI.out]; exact ownsRow_base hrow y5.size⟩, below_step y5 y5.size hb2⟩

theorem intsN_range (L : List Nat) : intsN ((List.range L.length).map fun i => L.getD i 0) = intsN L := by
  congr 1
  apply List.ext_getElem?
  intro i
  rw [List.getElem?_map]
  by_cases h : i < L.length
  · rw [List.getElem?_range h, List.getElem?_eq_getElem h]; simp [List.getD_eq_getElem?_getD, h]
  · rw [List.getElem?_eq_none (by simpa using h), List.getElem?_eq_none (by omega)]; rfl
theorem least_max {p : List ByteArray} (h : planB p = true) : mxF (fun i => (leastP p).2.getD i 0) (leastP p).2.length + 1 = (leastP p).1 := by
  have hpos := gridR_pos h
  obtain ⟨h1, a, ha, h2⟩ := leastC_max (near := nearB p) hpos
  rw [leastP_len h]
  have hge := mxF_ge (f := fun i => (leastP p).2.getD i 0) ha
  obtain ⟨i, hi, he⟩ := mxF_some (fun i => (leastP p).2.getD i 0) (gridR p) hpos
  have h3 := h1 i hi
  have h4 : (leastP p).2.getD a 0 + 1 = (leastP p).1 := h2
  have h5 : (leastP p).2.getD i 0 + 1 ≤ (leastP p).1 := h3
  have hge' : (leastP p).2.getD a 0 ≤ mxF (fun i => (leastP p).2.getD i 0) (gridR p) := hge
  have he' : mxF (fun i => (leastP p).2.getD i 0) (gridR p) = (leastP p).2.getD i 0 := he
  omega

set_option maxRecDepth 100000 in
set_option maxHeartbeats 1000000 in
theorem implNearColours_any (ao : Option Addr) (cap : Nat) (p : List ByteArray) (w : World) (hl : p.length ≤ 1048576) (hs : ∀ s ∈ p, s.size ≤ 1048576) (hc : CellsAt w ao (p.map Value.string)) :
    Calls Try.prog 15 #[.slice ao p.length cap] w fun e w' => e = .returned (.tuple #[.int .i64 (colsN p : Nat), .bool (planB p)]) ∧ Below w.heap.size w w' := by
  have hask : askB p [] = planB p := by unfold askB; simp
  cases hp : planB p
  · have h0 : colsN p = 0 := by unfold colsN; rw [hp]; rfl
    rw [hp] at hask
    have HR := Lib.hid (readChambers_no ao cap p none 0 [] w hl hs hc (by simp) (CellsAt.nil _ _) hask)
    rw [h0]
    clear h0 hask
    go_enter Try.func15, Try.ntmps15
    go_wp2_with (go_at_call 24; refine (HR.out).mono ?_; rintro e w1 ⟨rfl, hb1⟩)
    go_ret2
    exact ⟨rfl, hb1⟩
  · rw [hp] at hask
    have HR := Lib.hid (readChambers_yes ao cap p none 0 [] w hl hs hc (by simp) (CellsAt.nil _ _) hask)
    have h9 := (planP_of hp).few
    have HFC := Lib.hid (fun (W : World) (Q c Rb : Nat) so sc (h : ChB W Q (gridR p) (nbF p) (fun k => k < Q) so sc) h2 => firstColours_any Q (gridR p) c Rb (nbF p) (nearB p) (fun a b => by unfold nearB; rw [nbF_bes hp]) _ so sc W (gridR_pos hp) h9 h h2)
    change Hid (∀ (W : World) (Q c Rb : Nat) so sc, ChB W Q (gridR p) (nbF p) (fun k => k < Q) so sc → CellsAt W (some ⟨Rb, 0, none⟩) (ptrs Q (gridR p)) → Calls Try.prog 30 #[.slice (some ⟨Rb, 0, none⟩) (gridR p) c] W
      fun e w' => (∃ g rc, e = .returned (.slice (some ⟨g, 0, none⟩) (leastP p).2.length rc) ∧ w'.ownsRow W.heap.size 3 1 (.slice (some ⟨g, 0, none⟩) (leastP p).2.length rc) (leastP p).2.length (intsN (leastP p).2)) ∧ Below W.heap.size W w') at HFC
    have h0 : colsN p = (leastP p).1 := by unfold colsN; rw [hp]; rfl
    have hle := leastP_le hp
    have hmx := least_max hp
    have HLB := Lib.hid (show ∀ i, (leastP p).2.getD i 0 ≤ 1000 from fun i => by
      by_cases hi : i < (leastP p).2.length
      · have h1 := (leastC_max (near := nearB p) (gridR_pos hp)).1 i (by rw [leastP_len hp] at hi; exact hi)
        have h2 : (leastP p).2.getD i 0 + 1 ≤ (leastP p).1 := h1
        omega
      · rw [List.getD_eq_getElem?_getD, List.getElem?_eq_none (by omega)]; decide)
    have HLN := Lib.hid (show 0 < (leastP p).2.length ∧ (leastP p).2.length ≤ 1000 by rw [leastP_len hp]; exact ⟨gridR_pos hp, by omega⟩)
    rw [h0]
    unfold Linked at HR
    clear hask hl hs hc hp h0
    generalize (leastP p).1 = m at *
    generalize (leastP p).2 = L at *
    generalize nbF p = f at *
    generalize gridR p = n at *
    have HMX := Lib.hid (fun (W : World) ao cap (h : CellsAt W ao (intsN L)) => maxInts_any ao cap L.length (fun i => L.getD i 0) W HLN.out.1 HLN.out.2 HLB.out (by rw [intsN_range]; exact h))
    generalize (mxF (fun i => L.getD i 0) L.length) = x at *
    subst hmx
    have hx9 : x ≤ 9 := by omega
    clear hle
    go_enter Try.func15, Try.ntmps15
    go_wp2_with (first
      | (go_at_call 24; refine (HR.out).mono ?_; rintro e w1 ⟨Rb, c, Q, rfl, y1, ⟨so, sc, y2⟩, y3, y4, y5⟩; have HF2 := Lib.hid (HFC.out w1 Q c Rb so sc y2 y1); clear y1 y2)
      | (go_at_call 30; refine (HF2.out).mono ?_; rintro e w2 ⟨⟨g, rc, rfl, hrow⟩, hb2⟩; have hcl := owns_cells hrow; clear hrow)
      | (go_at_call 28; refine (HMX.out _ _ _ hcl).mono ?_; rintro e w3 ⟨rfl, rfl⟩))
    go_ret2
    exact ⟨rfl, below_step y5 y5.size hb2⟩
end Go.Proofs.Ytgiikdcjigcnlaa
