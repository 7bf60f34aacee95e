
/-
  Rooms of a part without a cut. (Walks.)
-/
import Derived.Test.YtamfnahbhhmiiaaGui4
import Derived.Test.YtamfnahbhhmiiaaNumA
namespace Go.Proofs.Ytamfnahbhhmiiaa
open Go.RowKit

theorem sumN_zero {f : Nat → Nat} : ∀ n, sumN n f = 0 ↔ ∀ i, i < n → f i = 0
  | 0 => by simp [sumN]
  | n + 1 => by
    rw [sumN]
    constructor
    · intro h i hi
      by_cases e : i = n
      · subst e; omega
      · exact (sumN_zero n).1 (by omega) i (by omega)
    · intro h
      have := (sumN_zero n).2 fun i hi => h i (by omega)
      have := h n (by omega)
      omega
theorem subP_grid {p : List ByteArray} (hp : PlanP p) {R : Rc} (F : R.Fit p.length (wideB p)) : GridP (subP p R) := by
  have h6 := hp.grid.h6; have w6 := hp.grid.w6
  have f1 := F.h1; have f2 := F.w1; have f3 := F.hh; have f4 := F.hw
  have hl := subP_len F; have hw := subP_wide hp.grid.even F
  refine ⟨by omega, by omega, by omega, by omega, subP_even hp.grid.even F, fun i hi => ?_⟩
  rw [hl] at hi
  have hs := hp.grid.small (R.r0 + i) (by omega)
  rw [subP_row F hi, extract_list]
  unfold smallB at hs ⊢
  rw [List.all_eq_true] at hs ⊢
  intro c hc
  exact hs c (List.mem_of_mem_drop (List.mem_of_mem_take hc))
theorem subP_mark {p : List ByteArray} (hp : PlanP p) {R : Rc} (F : R.Fit p.length (wideB p)) {i j : Nat} (hi : i < R.h) (hj : j < R.w) : markN (subP p R) i j = gridG p (R.r0 + i) (R.c0 + j) := by
  have f3 := F.hh; have f4 := F.hw
  rw [← hp.mark _ _ (by omega) (by omega)]
  have h := subP_byte F hi hj
  unfold markN
  unfold byteAt at h
  rw [h]
theorem cells_room {p : List ByteArray} (hp : PlanP p) {R : Rc} (F : R.Fit p.length (wideB p)) (a : Nat) : 0 < cellsB (subP p R) (a : Int) ↔ R.room (gridG p) a = true := by
  rw [cellsB_eq (subP_grid hp F), subP_len F, subP_wide hp.grid.even F, Rc.room_iff]
  have hz : cntG R.h R.w (fun i j => markN (subP p R) i j == a) = 0 ↔ ∀ i, i < R.h → ∀ j, j < R.w → gridG p (R.r0 + i) (R.c0 + j) ≠ a := by
    unfold cntG
    rw [sumN_zero]
    constructor
    · intro h i hi j hj he
      have := (sumN_zero _).1 (h i hi) j hj
      have hx : (fun i j => markN (subP p R) i j == a) i j = true := by
        show (markN (subP p R) i j == a) = true
        rw [subP_mark hp F hi hj, he]; simp
      rw [if_pos hx] at this
      cases this
    · intro h i hi
      rw [sumN_zero]
      intro j hj
      refine if_neg ?_
      show ¬ ((markN (subP p R) i j == a) = true)
      rw [subP_mark hp F hi hj]
      simpa using h i hi j hj
  constructor
  · intro h
    have hne : ¬ cntG R.h R.w (fun i j => markN (subP p R) i j == a) = 0 := by omega
    rw [hz] at hne
    exact Classical.byContradiction fun hno => hne fun i hi j hj he => hno ⟨_, _, ⟨by omega, by omega, by omega, by omega⟩, he⟩
  · rintro ⟨i, j, ⟨h1, h2, h3, h4⟩, he⟩
    have hne : ¬ cntG R.h R.w (fun i j => markN (subP p R) i j == a) = 0 := by
      rw [hz]
      intro h
      refine h (i - R.r0) (by omega) (j - R.c0) (by omega) ?_
      rw [show R.r0 + (i - R.r0) = i by omega, show R.c0 + (j - R.c0) = j by omega]; exact he
    omega
/-- the rooms of the first part without a cut -/
def stuckL (p : List ByteArray) : List Nat := if planB p = true then match (allR p).stuck (gridG p) 12 with | some S => S.rooms (gridG p) (gridR p) | none => [] else []
theorem stuckL_no {p : List ByteArray} (h : planB p = false) : stuckL p = [] := by unfold stuckL; rw [h]; rfl
theorem stuckL_none {p : List ByteArray} (h : planB p = true) (hs : (allR p).stuck (gridG p) 12 = none) : stuckL p = [] := by unfold stuckL; rw [if_pos h, hs]
theorem stuckL_some {p : List ByteArray} (h : planB p = true) {S : Rc} (hs : (allR p).stuck (gridG p) 12 = some S) : stuckL p = S.rooms (gridG p) (gridR p) := by unfold stuckL; rw [if_pos h, hs]
theorem stuckL_le (p : List ByteArray) : (stuckL p).length ≤ 9 := by
  cases h : planB p
  · rw [stuckL_no h]; simp
  · cases hs : (allR p).stuck (gridG p) 12 with
    | none => rw [stuckL_none h hs]; simp
    | some S => rw [stuckL_some h hs]; exact Nat.le_trans Rc.rooms_few (planP_of h).few
def intsG (S : List Nat) : List Int := S.map fun m => ((m : Nat) : Int)
theorem intsG_snoc (S : List Nat) (a : Nat) : intsG (S ++ [a]) = intsG S ++ [((a : Nat) : Int)] := by simp [intsG]
theorem intsG_len (S : List Nat) : (intsG S).length = S.length := by simp [intsG]
theorem stuckL_few (p : List ByteArray) : (intsG (stuckL p)).length ≤ 1048576 := by
  have := stuckL_le p
  unfold intsG; rw [List.length_map]; omega
theorem stuck_fit {g : Nat → Nat → Nat} {h wd : Nat} : ∀ (n : Nat) (R S : Rc), R.Fit h wd → R.stuck g n = some S → S.Fit h wd
  | 0, _, _, _, hs => by cases hs
  | n + 1, R, S, F, hs => by
    cases h1 : R.one g
    · cases hc : (R.cuts g).head? with
      | none => rw [Rc.stuck_no h1 hc] at hs; cases hs; exact F
      | some c =>
        have hm := Rc.cuts_mem (head_cut hc)
        rw [Rc.stuck_cut h1 hc] at hs
        cases hl : (R.left c).stuck g n with
        | none => rw [hl] at hs; exact stuck_fit n _ S (Rc.fit_right F hm.2.1).1 hs
        | some T =>
          rw [hl] at hs
          have he : T = S := Option.some.inj hs
          subst he
          exact stuck_fit n _ T (Rc.fit_left F hm.2.1).1 hl
    · rw [Rc.stuck_one h1] at hs; cases hs
/-- what the model tells of a part without a cut -/
def StqRet (p : List ByteArray) (o : Option Rc) (e : Ending) (w' : World) : Prop :=
  ∃ ro m rc, e = .returned (.slice ro m rc) ∧ (o = none → m = 0) ∧ ∀ S, o = some S → m = S.h ∧ CellsAt w' ro ((subP p S).map Value.string)
set_option maxRecDepth 100000 in
set_option maxHeartbeats 4000000 in
theorem l3Stuck_any {p : List ByteArray} (hp : PlanP p) : ∀ (n : Nat) (R : Rc) (ao : Option Addr) (cap : Nat) (w : World), R.Fit p.length (wideB p) → R.h + R.w ≤ n → CellsAt w ao ((subP p R).map Value.string) →
    Calls Try.prog 27 #[.slice ao R.h cap] w fun e w' => StqRet p (R.stuck (gridG p) n) e w' ∧ Below w.heap.size w w'
  | 0, R, _, _, _, F, hn, _ => by have := F.h1; omega
  | n + 1, R, ao, cap, w, F, hn, hc => by
    have HIH := Lib.hid (fun R ao cap w F hn hc => l3Stuck_any hp n R ao cap w F hn hc)
    have HONE := Lib.hid (l3OneR_any hp R ao cap w F hc)
    have HCUT := Lib.hid (fun w hc => l3CutR_any hp R ao cap w F hc)
    cases h1 : R.one (gridG p)
    · rw [h1] at HONE
      cases hcc : (R.cuts (gridG p)).head? with
      | none =>
        have hk := kindQ_none hp F hcc
        rw [hk] at HCUT
        rw [Rc.stuck_no h1 hcc]
        clear h1 hcc hk HIH
        have HC := Lib.hid hc; clear hc
        unfold StqRet
        simp only at HCUT
        go_enter Try.func27, Try.ntmps27
        go_wp2_with (first
          | (go_at_call 57; refine HONE.out.mono ?_; rintro e w1 ⟨rfl, hb1⟩)
          | (go_at_call 58; refine (HCUT.out _ (HC.out.below hb1)).mono ?_; rintro e w2 ⟨rfl, hb2⟩))
        go_ret
        have hbx := below_step hb1 hb1.size hb2
        exact ⟨⟨_, _, _, rfl, fun h => (by cases h), fun S hS => (by cases hS; exact ⟨rfl, HC.out.below hbx⟩)⟩, hbx⟩
      | some c =>
        obtain ⟨d, hkd, hcd, hd1, hd2, hd3, hdi⟩ := kindQ_some hp F hcc
        subst hcd
        rw [hkd] at HCUT
        have HPA := Lib.hid (fun w hc => l3PartsR_any hp R d ao cap w F hd1 hd3 hdi hc)
        have HF1 := Lib.hid (Rc.fit_left F hdi)
        have HF2 := Lib.hid (Rc.fit_right F hdi)
        have HL := Lib.hid (fun ao cap w hc => HIH.out _ ao cap w HF1.out.1 (by have := HF1.out.2; omega) hc)
        have HR := Lib.hid (fun ao cap w hc => HIH.out _ ao cap w HF2.out.1 (by have := HF2.out.2; omega) hc)
        have HSF := Lib.hid (fun S (hS : (R.left (absC R d)).stuck (gridG p) n = some S) => (stuck_fit n _ S HF1.out.1 hS).h1)
        rw [Rc.stuck_cut h1 hcc]
        have hne : ((d.2 : Int) == 0) = false := by rw [beq_eq_false_iff_ne]; omega
        clear h1 hcc hkd hd3 hdi HIH HF1 HF2
        have HC := Lib.hid hc; clear hc
        obtain ⟨way, line⟩ := d
        simp only at hd1 hd2 hne HCUT HPA ⊢
        generalize (R.left (absC R (way, line))).stuck (gridG p) n = sa at *
        generalize (R.right (absC R (way, line))).stuck (gridG p) n = sb at *
        generalize R.left (absC R (way, line)) = RL at *
        generalize R.right (absC R (way, line)) = RR at *
        go_enter Try.func27, Try.ntmps27
        go_wp2_with fail
        refine HONE.out.mono ?_
        rintro e w1 ⟨rfl, hb1⟩
        go_wp2_with fail
        refine (HCUT.out _ (HC.out.below hb1)).mono ?_
        rintro e w2 ⟨rfl, hb2⟩
        have hb3 := below_step hb1 hb1.size hb2
        clear hb1 hb2 HONE HCUT
        go_wp2_with fail
        refine (HPA.out _ (HC.out.below hb3)).mono ?_
        rintro e w4 ⟨ra, ca, rb, cb, rfl, hca, hcb, hb4⟩
        have hb5 := below_step hb3 hb3.size hb4
        clear hb3 hb4 HPA
        go_wp2_with fail
        refine (HL.out _ _ _ hca).mono ?_
        rintro e w6 ⟨⟨so, m, sc, rfl, hs1, hs2⟩, hb6⟩
        have hcb6 := hcb.below hb6
        have hb7 := below_step hb5 hb5.size hb6
        clear hb5 hb6 hcb hca HL
        cases sa with
        | none =>
          obtain rfl := hs1 rfl
          clear hs1 hs2
          go_wp2_with fail
          refine (HR.out _ _ _ hcb6).mono ?_
          rintro e w8 ⟨⟨to, m, tc, rfl, ht1, ht2⟩, hb8⟩
          have HT1 := Lib.hid ht1; have HT2 := Lib.hid ht2
          clear ht1 ht2
          go_wp2
          go_ret
          exact ⟨⟨to, m, tc, rfl, HT1.out, HT2.out⟩, below_step hb7 hb7.size hb8⟩
        | some S =>
          obtain ⟨rfl, hcs⟩ := hs2 S rfl
          have HCS := Lib.hid hcs
          have hsh := HSF.out S rfl
          have hshI : (0 : Int) < (S.h : Int) := by omega
          clear hs1 hs2 hcs
          go_wp2
          go_ret
          exact ⟨⟨_, _, _, rfl, fun h => (by cases h), fun T hT => (by cases hT; exact ⟨rfl, HCS.out⟩)⟩, hb7⟩
    · rw [h1] at HONE
      rw [Rc.stuck_one h1]
      clear h1 HCUT HIH F
      unfold StqRet
      go_enter Try.func27, Try.ntmps27
      go_wp2_with (go_at_call 57; refine HONE.out.mono ?_; rintro e w1 ⟨rfl, hb1⟩)
      go_ret
      exact ⟨⟨_, _, _, rfl, fun _ => rfl, fun S hS => by cases hS⟩, hb1.alloc hb1.size _⟩

theorem own_empty {w : World} {base g : Nat} {e : TypeId} {xs : List Value} (h : w.ownsRow base e 1 (.slice (some ⟨g, 0, none⟩) 0 0) 0 xs) (o : Nat) : w.cell? ⟨g, o, none⟩ = none := by
  rcases h.2 with ⟨hv, _⟩ | ⟨g', cap, cur, hv, hb, hg, h1, h2, h3, h4⟩
  · cases hv
  · simp only [Value.slice.injEq, Option.some.injEq, Addr.mk.injEq, and_true, true_and] at hv
    obtain ⟨rfl, rfl⟩ := hv
    have hB : HeldB w g e cur := hg
    rw [hB.cell]
    exact Array.getElem?_eq_none (by omega)
theorem filter_step {f : Nat → Bool} {k : Nat} : (List.range (k + 1)).filter f = (List.range k).filter f ++ (if f k = true then [k] else []) := by
  rw [List.range_succ, List.filter_append]
  by_cases h : f k = true
  · rw [if_pos h]; simp [h]
  · rw [if_neg h]; simp [h]
set_option maxRecDepth 100000 in
set_option maxHeartbeats 4000000 in
theorem specCutStuck_any (ao : Option Addr) (cap : Nat) (p : List ByteArray) (w : World) (hl : p.length ≤ 1048576) (hs : ∀ s ∈ p, s.size ≤ 1048576) (hc : CellsAt w ao (p.map Value.string)) :
    Calls Try.prog 8 #[.slice ao p.length cap] w fun e w' => NumsRet w.heap.size (intsG (stuckL p)) (decide (0 < (stuckL p).length)) e w' ∧ Below w.heap.size w w' := by
  have hb0 := below_alloc w (.cells #[] 3)
  have hr0 : (w.alloc (.cells #[] 3)).ownsRow w.heap.size 3 1 (.slice (some ⟨w.heap.size, 0, none⟩) 0 0) 0 ((intsG []).map (Value.int .i64)) := World.ownsRow_made w #[] 0 (Nat.le_refl _) (Nat.zero_le _) rfl
  have hc0 := hc.below hb0
  have HPI := Lib.hid (fun w hc => specPlanIn_any ao cap p w hl hs hc)
  obtain ⟨im, hmi, hmz, hm1, hm2⟩ := info_parts Try.infoNum
  cases h : planB p
  · rw [stuckL_no h]
    rw [h] at HPI
    clear h
    go_enter Try.func8, Try.ntmps8
    go_wp2_with fail
    refine (HPI.out _ hc0).mono ?_
    rintro e w1 ⟨rfl, hb1⟩
    have hr1 := ownsRow_below hr0 hb1
    go_wp2
    go_ret2
    exact ⟨⟨_, _, rfl, hr1⟩, below_step hb0 hb0.size hb1⟩
  · rw [h] at HPI
    have hp := planP_of h
    have hrm : roomsB p = (gridR p : Nat) := hp.rooms
    have hr9 := hp.few
    have HRO := Lib.hid (fun w hc => l1Rooms_any ao cap p w hl hs hc)
    rw [hrm] at HRO
    have HST := Lib.hid (fun w hc => l3Stuck_any hp 12 (allR p) ao cap w (allR_fit h).1 (allR_fit h).2 hc)
    have e1 : subP p (allR p) = p := subP_all hp.grid.even
    have e2 : (allR p).h = p.length := rfl
    rw [e1, e2] at HST
    have HC := Lib.hid hc0
    cases hk : (allR p).stuck (gridG p) 12 with
    | none =>
      rw [stuckL_none h hk]
      rw [hk] at HST
      clear h hp hrm hk e1 e2 hc hc0
      generalize gridR p = r at *
      go_enter Try.func8, Try.ntmps8
      go_wp2_with fail
      refine (HPI.out _ HC.out).mono ?_
      rintro e w1 ⟨rfl, hb1⟩
      have hr1 := ownsRow_below hr0 hb1
      have hx1 := below_step hb0 hb0.size hb1
      have hc1 := HC.out.below hb1
      clear hb1 hr0
      go_wp2_with fail
      refine (HST.out _ hc1).mono ?_
      rintro e w2 ⟨⟨so, m, sc, rfl, hs1, -⟩, hb2⟩
      obtain rfl := hs1 rfl
      have hr2 := ownsRow_below hr1 hb2
      have hx2 := below_step hx1 hx1.size hb2
      have hc2 := hc1.below hb2
      have HC2 := Lib.hid hc2
      clear hb2 hr1 hs1 hx1 hc1 hc2 HC HPI HST
      go_wp2
      go_loopw [4, 6] (fun vo vk wr => ∃ (k : Nat), k ≤ r ∧ vk = .int .i64 (k : Int) ∧ vo = .slice (some ⟨w.heap.size, 0, none⟩) 0 0 ∧ Below w2.heap.size w2 wr) (fun _ vk _ => r - (intOf vk).toNat)
      case atStart => exact ⟨0, Nat.zero_le _, rfl, rfl, Below.refl _ _⟩
      case round =>
        obtain ⟨k, hk, rfl, rfl, hbq⟩ := hrel
        have HCQ := Lib.hid (HC2.out.below hbq)
        by_cases hkr : k < r
        · have hkI : (k : Int) < (r : Int) := by omega
          go_wp2_with (go_at_call 28; refine (HRO.out _ HCQ.out).mono ?_; rintro e w3 ⟨rfl, rfl⟩)
          go_roundw
          case rel => exact ⟨k + 1, by omega, by go_num, rfl, hbq⟩
          case measure => simp [intOf]; omega
        · have hkI : ¬ (k : Int) < (r : Int) := by omega
          go_wp2_with (go_at_call 28; refine (HRO.out _ HCQ.out).mono ?_; rintro e w3 ⟨rfl, rfl⟩)
          go_ret2
          exact ⟨⟨_, _, rfl, ownsRow_below hr2 hbq⟩, below_step hx2 hx2.size hbq⟩
    | some S =>
      rw [stuckL_some h hk]
      rw [hk] at HST
      have hF := stuck_fit 12 _ S (allR_fit h).1 hk
      have HSM := Lib.hid (show (subP p S).length ≤ 1048576 ∧ ∀ s ∈ subP p S, s.size ≤ 1048576 from by
        have hg := subP_grid hp hF
        refine ⟨by have := hg.h6; omega, fun s hs => ?_⟩
        rw [even_size hg.even hs]; have := hg.w6; omega)
      have HCE := Lib.hid (fun (bo : Option Addr) (cp a : Nat) (w : World) hc => l1Cells_any bo cp (subP p S) ((a : Nat) : Int) w HSM.out.1 HSM.out.2 hc)
      have hsl : (subP p S).length = S.h := subP_len hF
      rw [hsl] at HCE
      have HRM := Lib.hid (fun a => cells_room hp hF a)
      have HFS := Lib.hid (fun k => filter_step (f := S.room (gridG p)) (k := k))
      have hsh := hF.h1
      have hR : S.rooms (gridG p) (gridR p) = (List.range (gridR p)).filter (S.room (gridG p)) := rfl
      rw [hR]
      have HF0 := Lib.hid (show (List.range 0).filter (S.room (gridG p)) = [] from rfl)
      have HFL := Lib.hid (fun k => show ((List.range k).filter (S.room (gridG p))).length ≤ k by have := List.length_filter_le (S.room (gridG p)) (List.range k); rwa [List.length_range] at this)
      have HPOS := Lib.hid (show 0 < ((List.range (gridR p)).filter (S.room (gridG p))).length from by
        rw [← hR, List.length_pos_iff_exists_mem]
        refine ⟨gridG p S.r0 S.c0, ?_⟩
        have f1 := hF.h1; have f2 := hF.w1; have f3 := hF.hh; have f4 := hF.hw
        rw [Rc.mem_rooms, Rc.room_iff]
        exact ⟨gridG_lt (by omega) (by omega), S.r0, S.c0, ⟨by omega, by omega, by omega, by omega⟩, rfl⟩)
      obtain ⟨ca, hca⟩ : ∃ ca : Nat → Int, ∀ a : Nat, cellsB (subP p S) ((a : Nat) : Int) = ca a := ⟨_, fun _ => rfl⟩
      have HCE2 := Lib.hid (fun (bo : Option Addr) (cp a : Nat) (w : World) hc => by have := HCE.out bo cp a w hc; rw [hca] at this; exact this)
      have HRM2 := Lib.hid (fun a => by have := HRM.out a; rw [hca] at this; exact this)
      have HSLN := Lib.hid hsl
      have HPL := Lib.hid hp.grid.h1
      clear HCE HRM hca h hrm hk e1 e2 hc hc0 hR hF hp hsl HSM
      generalize S.room (gridG p) = fr at *
      generalize gridR p = r at *
      go_enter Try.func8, Try.ntmps8
      go_wp2_with fail
      refine (HPI.out _ HC.out).mono ?_
      rintro e w1 ⟨rfl, hb1⟩
      have hr1 := ownsRow_below hr0 hb1
      have hx1 := below_step hb0 hb0.size hb1
      have hc1 := HC.out.below hb1
      clear hb1 hr0
      go_wp2_with fail
      refine (HST.out _ hc1).mono ?_
      rintro e w2 ⟨⟨so, m, sc, rfl, hs1, hs2⟩, hb2⟩
      obtain ⟨rfl, hcs⟩ := hs2 S rfl
      have hr2 := ownsRow_below hr1 hb2
      have hx2 := below_step hx1 hx1.size hb2
      have HC2 := Lib.hid (hc1.below hb2)
      have HCS := Lib.hid hcs
      clear hb2 hr1 hs1 hs2 hx1 hc1 hcs HC HPI HST
      have hshI : (0 : Int) < (S.h : Int) := by omega
      have HNS := Lib.hid (show ∀ a, so = some a → some a.block ≠ some w.heap.size from fun a ha e => by
        obtain ⟨sb, sof, rfl, kc⟩ := HCS.out.str 0 (by rw [HSLN.out]; exact hsh)
        cases ha
        have e' : sb = w.heap.size := Option.some.inj e
        rw [e', own_empty hr2] at kc
        cases kc)
      have HNA := Lib.hid (show ∀ a, ao = some a → some a.block ≠ some w.heap.size from fun a ha e => by
        obtain ⟨sb, sof, rfl, kc⟩ := HC2.out.str 0 (by have := HPL.out; omega)
        cases ha
        have e' : sb = w.heap.size := Option.some.inj e
        rw [e', own_empty hr2] at kc
        cases kc)
      have hr2' : w2.ownsRow w.heap.size 3 1 (.slice (some ⟨w.heap.size, 0, none⟩) ((List.range 0).filter fr).length 0) ((List.range 0).filter fr).length ((intsG ((List.range 0).filter fr)).map (Value.int .i64)) := hr2
      go_wp2
      go_loopw [4, 6] (fun vo vk wr => ∃ (k : Nat) (ro : Option Addr) (rc : Nat), k ≤ r ∧ vk = .int .i64 (k : Int) ∧ vo = .slice ro ((List.range k).filter fr).length rc ∧ wr.ownsRow w.heap.size 3 1 (.slice ro ((List.range k).filter fr).length rc) ((List.range k).filter fr).length ((intsG ((List.range k).filter fr)).map (Value.int .i64)) ∧ Below w.heap.size w wr ∧ w2.grownBy wr (some w.heap.size) ∧ (∀ a, ro = some a → a.block = w.heap.size ∨ w2.heap.size ≤ a.block)) (fun _ vk _ => r - (intOf vk).toNat)
      case atStart => exact ⟨0, _, _, Nat.zero_le _, rfl, rfl, hr2', hx2, ⟨rfl, rfl, rfl, Nat.le_refl _, fun _ _ _ => rfl⟩, fun a ha => by cases ha; exact .inl rfl⟩
      case round =>
        clear hr2 hr2' hx2
        obtain ⟨k, ro, rc, hk, rfl, rfl, hown, hb, hgr, hro⟩ := hrel
        have hcp := HC2.out.grown hgr HNA.out
        have hcs := HCS.out.grown hgr HNS.out
        have HCP := Lib.hid hcp; have HCS := Lib.hid hcs
        clear hcp hcs
        by_cases hkr : k < r
        · have hkI : (k : Int) < (r : Int) := by omega
          have hfs := HFS.out k
          have hfl := HFL.out k
          have hrm := HRM2.out k
          generalize hQ : (List.range k).filter fr = Q at *
          generalize hQ2 : (List.range (k + 1)).filter fr = Q2 at *
          have HQ2 := Lib.hid hQ2
          clear hQ hQ2
          cases hfk : fr k
          · rw [hfk, if_neg (by decide), List.append_nil] at hfs
            have HFQ := Lib.hid hfs
            have hnz : ¬ (0 : Int) < ca k := fun h => by have := hrm.1 h; rw [hfk] at this; cases this
            clear hfs hrm
            generalize hzz : ca k = z at *
            have HZZ := Lib.hid hzz
            clear hzz
            go_wp2_with fail
            refine (HRO.out _ HCP.out).mono ?_
            rintro e w3 ⟨rfl, rfl⟩
            go_wp2_with fail
            refine (HCE2.out _ _ k _ HCS.out).mono ?_
            rintro e w3 ⟨rfl, rfl⟩
            rw [HZZ.out]
            go_wp2
            go_roundw
            case rel => exact ⟨k + 1, ro, rc, by omega, by go_num, by rw [HQ2.out, HFQ.out], by rw [HQ2.out, HFQ.out]; exact hown, hb, hgr, hro⟩
            case measure => simp [intOf]; omega
          · rw [hfk, if_pos rfl] at hfs
            have HFQ := Lib.hid hfs
            have hpz : (0 : Int) < ca k := hrm.2 hfk
            clear hfs hrm
            generalize hzz : ca k = z at *
            have HZZ := Lib.hid hzz
            clear hzz
            have hb1' : Q.length + 1 ≤ maxLen := by unfold maxLen; omega
            have hb2' : (Q.length + 1) * 8 ≤ 140737488355328 := by omega
            have hbs := hb.size
            go_wp2_with fail
            refine (HRO.out _ HCP.out).mono ?_
            rintro e w3 ⟨rfl, rfl⟩
            go_wp2_with fail
            refine (HCE2.out _ _ k _ HCS.out).mono ?_
            rintro e w3 ⟨rfl, rfl⟩
            rw [HZZ.out]
            go_wp2_with (at_builtin; refine wpList_push _ rfl _ _ 25 rfl w.heap.size 3 im (.int .i64 0) 8 Try.underlying25 hmi hmz hm1 hm2 rfl ro Q.length rc _ rfl (hown.alloc _) _ _ _ rfl (cell_new _ _ _) rfl hb1' hb2' (by simp; omega) ?_; intro ro2 rc2 w4 hown2 hg2 hnew2)
            have hx := owns_eq hown2 (show _ = (intsG (Q ++ [k])).map (Value.int .i64) by rw [intsG_snoc, List.map_append]; rfl)
            have HLQ := Lib.hid (show (Q ++ [k]).length = Q.length + 1 by rw [List.length_append]; rfl)
            have hb4 := below_push hb hbs hg2 (fun a ha => (owns_lt hown a ha).1)
            have hgr2 : w2.grownBy w4 (some w.heap.size) := grownBy_step hgr (grownBy_trans (grownBy_of_below (below_alloc _ _) _) hg2) (fun k hk => by
              obtain ⟨a, ha, rfl⟩ := ownBlock_is hk
              exact hro a ha)
            have hro2 : ∀ a, ro2 = some a → a.block = w.heap.size ∨ w2.heap.size ≤ a.block := fun a ha => by
              rcases hnew2 a ha with h' | h'
              · exact hro a h'
              · right; have := hgr.size; simp at h'; omega
            go_roundw
            case rel => exact ⟨k + 1, ro2, rc2, by omega, by go_num, by rw [HQ2.out, HFQ.out, HLQ.out], by rw [HQ2.out, HFQ.out, HLQ.out]; exact hx, hb4, hgr2, hro2⟩
            case measure => simp [intOf]; omega
        · have hkI : ¬ (k : Int) < (r : Int) := by omega
          obtain rfl : k = r := by omega
          have hpos := HPOS.out
          obtain ⟨Q, hQ⟩ : ∃ Q, (List.range k).filter fr = Q := ⟨_, rfl⟩
          rw [hQ] at hown hpos ⊢
          have HQE := Lib.hid hQ
          clear hQ
          have hposI : decide ((0 : Int) < (Q.length : Int)) = true := by rw [decide_eq_true_eq]; omega
          have HPQ := Lib.hid hpos
          go_wp2_with fail
          refine (HRO.out _ HCP.out).mono ?_
          rintro e w3 ⟨rfl, rfl⟩
          go_wp2
          go_ret2
          exact ⟨⟨_, _, by rw [HQE.out, intsG_len, decide_eq_true HPQ.out]; rfl, by rw [HQE.out, intsG_len]; exact hown⟩, hb⟩

set_option maxRecDepth 100000 in
theorem stuckNil_any (po : Option Addr) (cap : Nat) (w : World) : Calls Try.prog 25 #[.slice po 0 cap] w fun e w' => e = .returned (.slice none 0 0) ∧ w' = w := by
  go_enter Try.func25, Try.ntmps25
  go_wp2
  go_ret
  exact ⟨rfl, rfl⟩
theorem natsG_step {L : List Nat} {i : Nat} (hi : i < L.length) : intsG (L.take (i + 1)) = intsG (L.take i) ++ [((L.getD i 0 : Nat) : Int)] := by
  rw [take_succ_getD L i 0 hi, intsG_snoc]
set_option maxRecDepth 100000 in
set_option maxHeartbeats 4000000 in
theorem implCutStuck_any (ao : Option Addr) (cap : Nat) (p : List ByteArray) (w : World) (hl : p.length ≤ 1048576) (hs : ∀ s ∈ p, s.size ≤ 1048576) (hc : CellsAt w ao (p.map Value.string)) :
    Calls Try.prog 7 #[.slice ao p.length cap] w fun e w' => NumsRet w.heap.size (intsG (stuckL p)) (decide (0 < (stuckL p).length)) e w' ∧ Below w.heap.size w w' := by
  have HRD := Lib.hid (readPlan_any ao cap p w hl hs hc)
  rw [readC_plan, readOk_eq] at HRD
  have HWH := Lib.hid (fun w => whole_any (planH p) (planW p) (planR p) (planG p) (planH_le p) (planW_le p) (planR_le9 p) w)
  have HSZ := Lib.hid (show (Try.prog.info? 44).map (·.size) = some (planC (planH p) (planW p) (planR p) (planG p)).size by rw [planC_size]; kernel_rfl)
  have HCS := Lib.hid (planC_size (planH p) (planW p) (planR p) (planG p))
  have HONE := Lib.hid (planC_one (planH p) (planW p) (planR p) (planG p))
  obtain ⟨im, hmi, hmz, hm1, hm2⟩ := info_parts Try.infoNum
  -- what the part without a cut is
  have HX := Lib.hid (show ∃ XN XV, (scanB (planH p) (planW p) (planG p) (planH p * planW p)).length = XN ∧ bxsV (scanB (planH p) (planW p) (planG p) (planH p * planW p)) = XV ∧ ∀ (po : Option Addr) (rc : Nat) (w : World), CellsAt w po XV →
      Calls Try.prog 25 #[.slice po XN rc] w fun e w' => ∃ ro m rc, e = .returned (.slice ro m rc) ∧ m = (stuckL p).length ∧ CellsAt w' ro (plL (bxP p) (stuckL p)) ∧ Below w.heap.size w w' from by
    refine ⟨_, _, rfl, rfl, fun po rc w hcl => ?_⟩
    cases h : planB p
    · have e1 : planH p = 0 := by unfold planH; rw [h]; rfl
      have e2 : planW p = 0 := by unfold planW; rw [h]; rfl
      rw [e1, e2, stuckL_no h]
      refine (stuckNil_any po rc w).mono ?_
      rintro e w' ⟨rfl, rfl⟩
      exact ⟨none, 0, 0, rfl, rfl, fun i u hu => (by simp [plL] at hu), Below.refl _ _⟩
    · have hp := planP_of h
      have e1 : planH p = p.length := if_pos h
      have e2 : planW p = wideB p := if_pos h
      have e4 : planG p = gridG p := if_pos h
      rw [e1, e2, e4] at hcl ⊢
      rw [(bxsV_plan hp).1] at hcl
      rw [(bxsV_plan hp).2]
      have hst := stuck_any (boxy_of hp) 12 (allR p) po rc w (allR_clo h) (allR_fit h).2 (by rw [allR_rooms h]; exact hcl)
      rw [allR_rooms h, List.length_range] at hst
      refine hst.mono ?_
      rintro e w' ⟨⟨ro, m, rc, rfl, h1, h2⟩, hb⟩
      refine ⟨ro, m, rc, rfl, ?_⟩
      cases hk : (allR p).stuck (gridG p) 12 with
      | none =>
        obtain ⟨rfl, rfl, rfl⟩ := h1 hk
        rw [stuckL_none h hk]
        exact ⟨rfl, fun i u hu => (by simp [plL] at hu), hb⟩
      | some S =>
        obtain ⟨a, rfl, rfl, hcs⟩ := h2 S hk
        rw [stuckL_some h hk]
        exact ⟨rfl, hcs, hb⟩)
  obtain ⟨XN, XV, hXN, hXV, HST⟩ := HX.out
  have HST := Lib.hid HST
  rw [hXN, hXV] at HWH
  have hLe := stuckL_le p
  have HSTP := Lib.hid (fun i (hi : i < (stuckL p).length) => natsG_step hi)
  have HALL := Lib.hid (show (stuckL p).take (stuckL p).length = stuckL p from List.take_length)
  clear HX hXN hXV hc
  generalize planC (planH p) (planW p) (planR p) (planG p) = C at *
  generalize hLL : stuckL p = L at *
  have HLL := Lib.hid hLL
  clear hLL
  go_enter Try.func7, Try.ntmps7
  go_wp2_with fail
  refine HRD.out.mono ?_
  rintro e w1 ⟨rfl, hb1⟩
  have bC := HeldB.new w1 44 C
  have hb1' := hb1.alloc hb1.size (.cells C 44)
  go_wp2_with (first
    | (refine wpList_alloc_zero rfl 44 rfl zeroC zero_plan ?_)
    | (refine wpList_store_new rfl 44 _ _ rfl _ zeroC C rfl rfl rfl HSZ.out (by rw [HCS.out]; rfl) HONE.out ?_)
    | (refine wpList_load_row rfl 44 _ rfl w1.heap.size rfl 44 C (0, 0) _ bC Try.underlying44 rfl HSZ.out ?_)
    | (go_at_call 24; refine (HWH.out _).mono ?_; rintro e w2 ⟨ro, rc, rfl, hown, hb2⟩; have hcl := ownsK_cells hown))
  refine (HST.out _ _ _ hcl).mono ?_
  rintro e w3 ⟨so, m, sc, rfl, rfl, hcs, hb3⟩
  have hx2 := below_step hb1' hb1'.size hb2
  have hx3 := below_step hx2 hx2.size hb3
  have HCC := Lib.hid hcs
  clear hb1 hb1' hb2 hb3 hcl hown bC HWH HST HRD HCS HONE HSZ hx2 hcs
  have hr0 : w3.ownsRow w3.heap.size 3 1 (.slice none 0 0) 0 ((intsG (L.take 0)).map (Value.int .i64)) := ⟨rfl, .inl ⟨rfl, rfl⟩⟩
  go_wp2
  go_loopw [6, 18] (fun vo vk wr => ∃ (k : Nat) (ro : Option Addr) (rc : Nat), k ≤ L.length ∧ vk = .int .i64 (k : Int) ∧ vo = .slice ro k rc ∧ wr.ownsRow w3.heap.size 3 1 (.slice ro k rc) k ((intsG (L.take k)).map (Value.int .i64)) ∧ Below w3.heap.size w3 wr) (fun _ vk _ => L.length - (intOf vk).toNat)
  case atStart => exact ⟨0, none, 0, Nat.zero_le _, rfl, rfl, hr0, Below.refl _ _⟩
  case round =>
    clear hr0
    obtain ⟨k, ro, rc, hk, rfl, rfl, hown, hb⟩ := hrel
    by_cases hkr : k < L.length
    · have hkI : (k : Int) < (L.length : Int) := by omega
      obtain ⟨sb, sof, rfl, -⟩ := HCC.out 0 _ (plL_at (bx := bxP p) (L := L) (k := 0) (by omega))
      have hrg := pl_cells_range (HCC.out.below hb) (i := k) hkr
      have HS1 := Lib.hid (HSTP.out k hkr)
      have hbs := hb.size
      have hb1' : k + 1 ≤ maxLen := by unfold maxLen; omega
      have hb2' : (k + 1) * 8 ≤ 140737488355328 := by omega
      generalize L.getD k 0 = a at *
      have hown1 := hown.alloc (.cells (pl1 (bxP p) a) 53)
      have hb3 := hb.alloc hbs (.cells (pl1 (bxP p) a) 53)
      have bx := (HeldB.new wr 53 (pl1 (bxP p) a)).cell 0
      rw [show (pl1 (bxP p) a)[0]? = some (.int .i64 ((a : Nat) : Int)) from rfl] at bx
      unfold pl1 at hown1 hb3 bx
      go_wp2_with (first
        | (refine wpList_load_mid rfl 53 _ rfl sb (sof + k * 5) rfl (pl1 (bxP p) a).toList _ hrg Try.underlying53 rfl Try.sizePl ?_; simp only [pl1])
        | (at_builtin; refine wpList_push _ rfl _ _ 25 rfl w3.heap.size 3 im (.int .i64 0) 8 Try.underlying25 hmi hmz hm1 hm2 rfl ro k rc _ rfl (hown1.alloc _) _ _ _ rfl (cell_new2 _ _ _ _) rfl hb1' hb2' (by simp; omega) ?_; intro ro2 rc2 w4 hown2 hg2 hnew2))
      have hx := owns_eq hown2 (show _ = (intsG (L.take (k + 1))).map (Value.int .i64) by rw [HS1.out, List.map_append]; rfl)
      have hb4 := below_push hb3 hb3.size hg2 (fun a ha => (owns_lt hown1 a ha).1)
      go_roundw
      case rel => exact ⟨k + 1, ro2, rc2, by omega, by go_num, rfl, hx, hb4⟩
      case measure => simp [intOf]; omega
    · have hke : k = L.length := by omega
      have hkI : ¬ (k : Int) < (L.length : Int) := by omega
      have HKE := Lib.hid hke
      have hown2 : wr.ownsRow w3.heap.size 3 1 (.slice ro k rc) k ((intsG L).map (Value.int .i64)) := by
        have := hown; rw [hke, HALL.out] at this; rw [hke]; exact this
      have hsz3 := hx3.size
      by_cases hk0 : 0 < k
      · have hk0I : decide ((0 : Int) < (k : Int)) = true := by rw [decide_eq_true_eq]; omega
        have HD := Lib.hid (show decide (0 < L.length) = true from decide_eq_true (by omega))
        clear hke
        go_wp2
        go_ret2
        exact ⟨⟨_, _, by rw [intsG_len, HD.out, ← HKE.out]; rfl, by rw [intsG_len, ← HKE.out]; exact ownsRow_base hown2 hsz3⟩, below_step hx3 hx3.size hb⟩
      · have hk0I : decide ((0 : Int) < (k : Int)) = false := by rw [decide_eq_false_iff_not]; omega
        have HD := Lib.hid (show decide (0 < L.length) = false from decide_eq_false (by omega))
        clear hke
        go_wp2
        go_ret2
        exact ⟨⟨_, _, by rw [intsG_len, HD.out, ← HKE.out]; rfl, by rw [intsG_len, ← HKE.out]; exact ownsRow_base hown2 hsz3⟩, below_step hx3 hx3.size hb⟩

end Go.Proofs.Ytamfnahbhhmiiaa
