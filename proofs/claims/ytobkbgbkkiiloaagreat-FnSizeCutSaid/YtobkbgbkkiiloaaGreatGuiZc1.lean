/-
  Merged texts: GuiX GuiY.
-/
import Derived.Test.YtobkbgbkkiiloaaGreatGui4c1
import Derived.Test.YtobkbgbkkiiloaaGreatSizYc1

/-
  Least widths along cuts: the program. (Walks.)
-/
namespace Go.Proofs.YtobkbgbkkiiloaaGreat
open Go.RowKit

/-- the least width along a way to cut -/
def sizeT (d : Nat → Nat) : Tr → Nat
  | .room a => d a
  | .cut way _ l r => if way = 0 then sizeT d l + sizeT d r else max (sizeT d l) (sizeT d r)
theorem sizeT_le {d : Nat → Nat} (hd : ∀ a, d a ≤ 9) {g : Nat → Nat → Nat} : ∀ (n : Nat) (R : Rc) (t : Tr), R.tree g n = some t → sizeT d t ≤ 9 * 4 ^ n
  | 0, _, _, h => by cases h
  | n + 1, R, t, h => by
    have h4 : (4 : Nat) ^ (n + 1) = 4 * 4 ^ n := by rw [Nat.pow_succ, Nat.mul_comm]
    have h41 : 1 ≤ (4 : Nat) ^ n := Nat.pow_pos (by omega)
    cases h1 : R.one g
    · cases hc : (R.cuts g).head? with
      | none => rw [Rc.tree_no h1 hc] at h; cases h
      | some c =>
        rw [Rc.tree_join h1 hc] at h
        obtain ⟨x, y, e1, e2, rfl⟩ := joinT_some h
        have i1 := sizeT_le hd n _ _ e1
        have i2 := sizeT_le hd n _ _ e2
        show (if c.1 = 0 then sizeT d x + sizeT d y else max (sizeT d x) (sizeT d y)) ≤ _
        split <;> omega
    · rw [Rc.tree_one h1] at h
      cases h
      have := hd (g R.r0 R.c0)
      show d (g R.r0 R.c0) ≤ _
      omega
theorem needB_all {l : List Int} (h : needB l = true) (a : Nat) : dN l a ≤ 9 := by
  by_cases ha : a < l.length
  · exact (needB_at h ha).2.2
  · unfold dN; rw [List.getD_eq_getElem?_getD, List.getElem?_eq_none (by omega)]; exact Nat.zero_le _
set_option maxRecDepth 100000 in
theorem leastCut1_any (N : Nat) (bo : Option Addr) (cb n : Nat) (l : List Int) (a v : Nat) (w : World) (hn : l.length = n) (ha : a < n) (hv : l.getD a 0 = ((v : Nat) : Int)) (hN : w.cell? ⟨N, 0, none⟩ = some (.slice bo n cb)) (hd : CellsAt w bo (l.map (Value.int .i64))) :
    Calls Tryz.prog 70 #[.int .i64 ((a : Nat) : Int), .pointer (some ⟨N, 0, none⟩)] w fun e w' => e = .returned (.int .i64 ((v : Nat) : Int)) ∧ Below w.heap.size w w' := by
  obtain ⟨b0, o0, rfl, k0⟩ := hd.int a (by omega)
  rw [hv] at k0
  have haI : (a : Int) < (n : Int) := by omega
  clear hd hn hv
  go_enter Tryz.func70, Tryz.ntmps70
  go_wp2
  go_ret
  exact ⟨rfl, Below.refl _ _⟩
set_option maxRecDepth 100000 in
set_option maxHeartbeats 2000000 in
theorem leastCut2_any (c : Nat × Nat) (x y : Nat) (w : World) (h1 : c.1 < 2) (hx : x ≤ 1000000000) (hy : y ≤ 1000000000) : Calls Tryz.prog 72 #[.agg (ctC c), .int .i64 ((x : Nat) : Int), .int .i64 ((y : Nat) : Int)] w
    fun e w' => e = .returned (.int .i64 (((if c.1 = 0 then x + y else max x y) : Nat) : Int)) ∧ Below w.heap.size w w' := by
  have hb := below_alloc w (.cells (ctC c) 100)
  obtain ⟨way, line⟩ := c
  unfold ctC at *
  simp only at h1 hb ⊢
  rcases (show way = 0 ∨ way = 1 by omega) with h0 | h0
  · subst h0
    rw [show ((0 : Nat) : Int) = 0 from rfl] at hb ⊢
    rw [if_pos rfl, Int.natCast_add]
    go_enter Tryz.func72, Tryz.ntmps72
    go_wp2
    go_ret
    exact ⟨rfl, hb⟩
  · subst h0
    rw [show ((1 : Nat) : Int) = 1 from rfl] at hb ⊢
    rw [if_neg (by decide)]
    by_cases hlt : x < y
    · have hltI : (x : Int) < (y : Int) := by omega
      rw [Nat.max_eq_right (by omega)]
      go_enter Tryz.func72, Tryz.ntmps72
      go_wp2
      go_ret
      exact ⟨rfl, hb⟩
    · have hltI : ¬ (x : Int) < (y : Int) := by omega
      rw [Nat.max_eq_left (by omega)]
      go_enter Tryz.func72, Tryz.ntmps72
      go_wp2
      go_ret
      exact ⟨rfl, hb⟩

set_option maxRecDepth 100000 in
set_option maxHeartbeats 4000000 in
theorem alongI_any {h wd : Nat} {g : Nat → Nat → Nat} {r : Nat} {bx : Nat → Bx} (B : Boxy h wd g r bx) {N : Nat} {bo : Option Addr} {cb : Nat} {l : List Int} {d : Nat → Nat} (hll : l.length = r) (hdl : ∀ a, a < r → l.getD a 0 = ((d a : Nat) : Int)) (hd9 : ∀ a, d a ≤ 9) : ∀ (n : Nat) (R : Rc) (t : Tr) (po : Option Addr) (cap : Nat) (w : World), R.Clo g h wd → R.h + R.w ≤ n → n ≤ 12 → R.tree g n = some t → CellsAt w po (plL bx (R.rooms g r)) → w.cell? ⟨N, 0, none⟩ = some (.slice bo r cb) → CellsAt w bo (l.map (Value.int .i64)) →
    Calls Tryz.prog 71 #[.slice po (R.rooms g r).length cap, .func (.func 70) #[] #[.pointer (some ⟨N, 0, none⟩)], .func (.func 72) #[] #[]] w fun e w' => e = .returned (.int .i64 ((sizeT d t : Nat) : Int)) ∧ Below w.heap.size w w'
  | 0, R, _, _, _, _, C, hn, _, _, _, _, _ => by have := C.fit.h1; omega
  | n + 1, R, t, po, cap, w, C, hn, h12, htr, hc, hN, hD => by
    have HIH := Lib.hid (fun R t po cap w C hn htr hc hN hD => alongI_any (N := N) (bo := bo) (cb := cb) B hll hdl hd9 n R t po cap w C hn (by omega) htr hc hN hD)
    have HCU := Lib.hid (cutsR_any B R C po cap w hc)
    have hone := B.one_len C
    have hpos := B.rooms_pos C
    cases h1 : R.one g
    · rw [h1] at hone
      have hlen : ((R.rooms g r).length == 1) = false := by
        rw [beq_eq_false_iff_ne]; intro h
        rw [decide_eq_true h] at hone; cases hone
      have hlenI : (((R.rooms g r).length : Int) == 1) = false := by
        rw [beq_eq_false_iff_ne] at hlen ⊢; omega
      cases hcc : (R.cuts g).head? with
      | none => rw [Rc.tree_no h1 hcc] at htr; cases htr
      | some c =>
        rw [Rc.tree_join h1 hcc] at htr
        obtain ⟨x, y, ex, ey, rfl⟩ := joinT_some htr
        have hmem := head_cut hcc
        have hm := Rc.cuts_mem hmem
        have HAP := Lib.hid (fun w hc => apartR_any B R C c hmem po cap w hc)
        have HF1 := Rc.fit_left C.fit hm.2.1; have HF2 := Rc.fit_right C.fit hm.2.1
        have HL := Lib.hid (fun po cap w hc hN hD => HIH.out (R.left c) x po cap w (C.left B.rect hm.2.1 hm.2.2) (by omega) ex hc hN hD)
        have HR := Lib.hid (fun po cap w hc hN hD => HIH.out (R.right c) y po cap w (C.right B.rect hm.2.1 hm.2.2) (by omega) ey hc hN hD)
        have h4n : (4 : Nat) ^ n ≤ 4 ^ 12 := Nat.pow_le_pow_right (by omega) (by omega)
        rw [show (4 : Nat) ^ 12 = 16777216 by decide] at h4n
        have HT2 := Lib.hid (fun w => leastCut2_any c (sizeT d x) (sizeT d y) w hm.1 (by have := sizeT_le hd9 n _ _ ex; omega) (by have := sizeT_le hd9 n _ _ ey; omega))
        have hk := ctL_at hcc
        have hkl : 0 < (R.cuts g).length := List.length_pos_of_mem hmem
        have HC := Lib.hid hc
        have HCT := Lib.hid (show (Tryz.prog.info? 100).map (·.size) = some (ctC c).toList.length by rw [Tryz.sizeCt]; rfl)
        have HTX := Lib.hid (show (if c.1 = 0 then sizeT d x + sizeT d y else max (sizeT d x) (sizeT d y)) = sizeT d (Tr.cut c.1 c.2 x y) from rfl)
        generalize sizeT d (Tr.cut c.1 c.2 x y) = TX at *
        generalize (if c.1 = 0 then sizeT d x + sizeT d y else max (sizeT d x) (sizeT d y)) = TL at *
        generalize sizeT d x = tx at *
        generalize sizeT d y = ty at *
        have HNN := Lib.hid hN; have HDD := Lib.hid hD
        clear h1 hone hcc HIH hc hpos hlen hmem hm HF1 HF2 h4n ex ey htr hN hD
        generalize R.left c = RL at *
        generalize R.right c = RR at *
        generalize (R.cuts g).length = kl at *
        generalize ctL (R.cuts g) = CL at *
        have hklI : (0 : Int) < (kl : Int) := by omega
        unfold ctC at HAP HT2 HCT
        simp only at HAP HT2 HCT
        have bC1 := fun (w1 : World) => HeldB.new w1 100 #[.int .i64 ((c.1 : Nat) : Int), .int .i64 ((c.2 : Nat) : Int)]
        have BC1 := Lib.hid bC1
        clear bC1
        go_enter Tryz.func71, Tryz.ntmps71
        go_wp2_with fail
        refine HCU.out.mono ?_
        rintro e w1 ⟨ro, rc, rfl, hcl, hb1⟩
        obtain ⟨kb, ko, rfl, k0⟩ := hcl 0 _ hk.1
        obtain ⟨kb', ko', e2, k1⟩ := hcl 1 _ hk.2
        cases e2
        rw [Nat.add_zero] at k0
        clear hcl
        have bC := BC1.out w1
        have hb2 := hb1.alloc hb1.size (.cells #[.int .i64 ((c.1 : Nat) : Int), .int .i64 ((c.2 : Nat) : Int)] 100)
        have hc2 := HC.out.below hb2
        go_wp2_with fail
        clear k0 k1 HCU
        refine (HAP.out _ hc2).mono ?_
        rintro e w3 ⟨ra, ca, rb, cb, rfl, hca, hcb, hb3⟩
        have hb4 := below_step hb2 hb2.size hb3
        have bC3 := (bC.below hb3).range
        have HN3 := cell_below HNN.out hb4
        have HD3 := HDD.out.below hb4
        have HL2 := Lib.hid (fun (d : Nat) (os : Array Obj) => Calls.regrown_of (HL.out ra ca (Sort.grow (redrawn w3 d) os) (hca.below (below_regrown w3 d os)) (cell_regrown HN3 d os) (HD3.below (below_regrown w3 d os))))
        have HR2 := Lib.hid (fun (d : Nat) (os : Array Obj) => Calls.regrown_of (HR.out rb cb (Sort.grow (redrawn w3 d) os) (hcb.below (below_regrown w3 d os)) (cell_regrown HN3 d os) (HD3.below (below_regrown w3 d os))))
        have HX2 := Lib.hid (fun (d : Nat) (os : Array Obj) => Calls.regrown_of (HT2.out (Sort.grow (redrawn w3 d) os)))
        have HRC := Lib.hid (range_regrown bC3)
        clear HAP HL HR HT2 hb1 hb2 hb3 bC bC3 hca hcb hc2 HC HN3 HD3
        go_wp2
        refine wp_region_quiet_below (by kernel_rfl) (by kernel_rfl) ?_
        repeat (first | go_big_quiet_step (fail))
        refine wpQuiet_load_mid (by rfl) 100 _ rfl w1.heap.size 0 (by rfl) [.int .i64 ((c.1 : Nat) : Int), .int .i64 ((c.2 : Nat) : Int)] #[.int .i64 ((c.1 : Nat) : Int), .int .i64 ((c.2 : Nat) : Int)] rfl _ HRC.out Tryz.underlying100 rfl HCT.out ?_
        go_simp
        repeat (first | go_big_quiet_step (with_reducible exact HL2.out _ _) | quiet_step (with_reducible exact HL2.out _ _))
        repeat (first | go_big_quiet_step (with_reducible exact HR2.out _ _) | quiet_step (with_reducible exact HR2.out _ _))
        repeat (first | go_big_quiet_step (with_reducible exact HX2.out _ _) | quiet_step (with_reducible exact HX2.out _ _))
        refine wpQuiet_nil ?_
        intro r7
        have hb7 := hb4.trans ((below_regrown w3 r7.d r7.os).mono hb4.size)
        generalize Sort.grow (redrawn w3 r7.d) r7.os = W7 at *
        go_wp2
        go_ret
        exact ⟨by rw [← HTX.out]; rfl, hb7⟩
    · rw [h1] at hone
      have hlen : (R.rooms g r).length = 1 := of_decide_eq_true hone.symm
      have hrm := Rc.rooms_one C.fit B.lt h1
      rw [Rc.tree_one h1] at htr
      cases htr
      have hlt := B.lt R.r0 R.c0 (by have := C.fit.h1; have := C.fit.hh; omega) (by have := C.fit.w1; have := C.fit.hw; omega)
      have h9 := B.few
      have HTX := Lib.hid (fun w hN hD => leastCut1_any N bo cb r l (g R.r0 R.c0) (d (g R.r0 R.c0)) w hll hlt (hdl _ hlt) hN hD)
      rw [hrm] at hc
      rw [hlen]
      obtain ⟨b0, o0, rfl, k0⟩ := hc 0 _ (plL_at (bx := bx) (L := [g R.r0 R.c0]) (k := 0) (by simp))
      rw [Nat.add_zero] at k0
      have k1 : w.cell? ⟨b0, o0, none⟩ = some (.int .i64 ((g R.r0 R.c0 : Nat) : Int)) := k0
      have HT := Lib.hid (show sizeT d (Tr.room (g R.r0 R.c0)) = d (g R.r0 R.c0) from rfl)
      have HNN := Lib.hid hN; have HDD := Lib.hid hD
      generalize sizeT d (Tr.room (g R.r0 R.c0)) = TX at *
      generalize d (g R.r0 R.c0) = TY at *
      generalize g R.r0 R.c0 = v at *
      clear h1 hone HIH HCU hlen k0 hc hrm hpos hN hD
      go_enter Tryz.func71, Tryz.ntmps71
      go_wp2_with fail
      refine (HTX.out _ HNN.out HDD.out).mono ?_
      rintro e w1 ⟨rfl, hb1⟩
      go_wp2
      go_ret
      exact ⟨by rw [HT.out]; rfl, hb1⟩

set_option maxRecDepth 100000 in
set_option maxHeartbeats 2000000 in
theorem leastCut_any {h wd : Nat} {g : Nat → Nat → Nat} {r : Nat} {bx : Nat → Bx} (B : Boxy h wd g r bx) {bo : Option Addr} {cb : Nat} {l : List Int} {d : Nat → Nat} (hll : l.length = r) (hdl : ∀ a, a < r → l.getD a 0 = ((d a : Nat) : Int)) (hd9 : ∀ a, d a ≤ 9)
    (R : Rc) (t : Tr) (m nl : Nat) (po : Option Addr) (cap : Nat) (w : World) (hnl : nl = r) (C : R.Clo g h wd) (hn : R.h + R.w ≤ 12) (htr : R.tree g 12 = some t) (hm : (R.rooms g r).length = m) (hc : CellsAt w po (plL bx (R.rooms g r))) (hD : CellsAt w bo (l.map (Value.int .i64))) :
    Calls Tryz.prog 44 #[.slice po m cap, .slice bo nl cb] w fun e w' => e = .returned (.int .i64 ((sizeT d t : Nat) : Int)) ∧ Below w.heap.size w w' := by
  subst hnl
  have hb := below_alloc w (.cells #[.slice bo nl cb] 24)
  have HAL := Lib.hid (alongI_any B hll hdl hd9 12 R t po cap _ C hn (Nat.le_refl _) htr (hc.below hb) (cell_new w (.slice bo nl cb) 24) (hD.below hb))
  rw [hm] at HAL
  clear hm htr hc hD C hn hll hdl hd9
  generalize sizeT d t = TX at *
  go_enter Tryz.func44, Tryz.ntmps44
  go_wp2_with (go_at_call 71; refine HAL.out.mono ?_; rintro e w2 ⟨rfl, hb2⟩)
  go_ret
  exact ⟨rfl, below_step hb hb.size hb2⟩

theorem dw_any2 {base : Nat} {p : List ByteArray} {l : List Int} {way : Int} {e : Ending} {w' : World} {b : Bool} (hz : sizedB p l = b) (h : DwRet base (ordP p) way (gridR p) l b e w') : ∃ D, e = .returned (.tuple #[.agg D, .bool b]) ∧ D.size = 203 ∧ D.all (·.oneCell') = true ∧ (b = false → D = noDw) := by
  subst hz
  obtain ⟨D, h1, h2, h3, h4, _⟩ := dw_any h
  exact ⟨D, h1, h2, h3, h4⟩
def sizeO (d : Nat → Nat) : Option Tr → Nat
  | some t => sizeT d t
  | none => 0
/-- the least width along cuts, or nothing -/
def cutV (p : List ByteArray) (l : List Int) : Nat := if sizedB p l = true then sizeO (dN l) (treeP p) else 0
set_option maxRecDepth 100000 in
set_option maxHeartbeats 8000000 in
theorem implSizeCut_any (ao bo : Option Addr) (ca cb : Nat) (p : List ByteArray) (l : List Int) (w : World) (hl : p.length ≤ 1048576) (hs : ∀ s ∈ p, s.size ≤ 1048576) (hll : l.length ≤ 1048576)
    (hc : CellsAt w ao (p.map Value.string)) (hd : CellsAt w bo (l.map (Value.int .i64))) :
    Calls Tryz.prog 26 #[.slice ao p.length ca, .slice bo l.length cb] w fun e w' => e = .returned (.tuple #[.int .i64 ((cutV p l : Nat) : Int), .bool (sizedB p l && (treeP p).isSome)]) ∧ Below w.heap.size w w' := by
  have HRD := Lib.hid (fun w hc hd => readDrawing_any ao bo ca cb p ((0 : Nat) : Int) l w hl hs hll hc hd)
  change Hid (∀ w _ _, Calls _ _ #[.slice ao p.length ca, .int .i64 0, .slice bo l.length cb] w _) at HRD
  have HRC := Lib.hid (fun w hc => readCuttable_any ao ca p w hl hs hc)
  unfold CutRet at HRC
  have HZ := Lib.hid noDw_zero; have HZS := Lib.hid noDw_size
  have HC := Lib.hid hc; have HD := Lib.hid hd
  have go1 : ∀ {w1 : World} {D : Array Value}, Below w.heap.size w w1 → Below w.heap.size w (w1.alloc (.cells D 50)) := fun hb1 => hb1.alloc hb1.size _
  have GO1 := Lib.hid (fun (w1 : World) (D : Array Value) (hb1 : Below w.heap.size w w1) => hb1.alloc hb1.size (.cells D 50))
  clear go1 hc hd
  cases hz : sizedB p l
  · rw [hz] at HRD
    rw [show cutV p l = 0 by unfold cutV; rw [hz]; rfl, Bool.false_and]
    have HSB := Lib.hid hz
    obtain ⟨Z, hZ⟩ : ∃ Z, noDw = Z := ⟨_, rfl⟩
    rw [hZ] at HZ HZS
    cases hT : (treeP p).isSome
    all_goals
      rw [hT] at HRC
      clear hT
      go_enter Tryz.func26, Tryz.ntmps26
      go_wp2_with fail
      refine (HRD.out _ HC.out HD.out).mono ?_
      rintro e w1 ⟨hdr, hb1⟩
      obtain ⟨D, rfl, hs1, hs2, hD0⟩ := dw_any2 HSB.out hdr
      clear hdr
      have hDn := hD0 rfl
      rw [hZ] at hDn
      clear hD0
      subst hDn
      have hbx := GO1.out w1 D hb1
      have hcx := HC.out.below hbx
      have HDI := Lib.hid (show (Tryz.prog.info? 50).map (·.size) = some D.size by rw [hs1]; kernel_rfl)
      have HS1 := Lib.hid hs2
      clear hs1 hs2
      go_wp2_with (first
        | (refine wpList_alloc_zero rfl 50 rfl D HZ.out ?_)
        | (refine wpList_store_new rfl 50 _ _ rfl _ D D rfl rfl rfl HDI.out rfl HS1.out ?_)
        | (go_at_call 43; refine (HRC.out _ hcx).mono ?_; rintro e w5 ⟨⟨ro, m, rc, rfl, -⟩, hb5⟩))
      go_ret2
      exact ⟨rfl, below_step hbx hbx.size hb5⟩
  · obtain ⟨hp, hlen, hnb, hr9, hr1, hdd⟩ := sized_facts hz
    have hP := plainB_plan hp
    rw [hz] at HRD
    rw [show cutV p l = sizeO (dN l) (treeP p) by unfold cutV; rw [hz]; rfl, Bool.true_and]
    have HSB := Lib.hid hz
    obtain ⟨Z, hZ⟩ : ∃ Z, noDw = Z := ⟨_, rfl⟩
    rw [hZ] at HZ HZS
    have HDL := Lib.hid (show ∀ a, a < gridR p → l.getD a 0 = ((dN l a : Nat) : Int) from fun a ha => (needB_at hnb (by omega)).1)
    have HD9 := Lib.hid (needB_all hnb)
    cases hT : treeP p with
    | none =>
      rw [hT] at HRC
      clear hT hP hlen hnb hr9 hr1 hdd hp
      go_enter Tryz.func26, Tryz.ntmps26
      go_wp2_with fail
      refine (HRD.out _ HC.out HD.out).mono ?_
      rintro e w1 ⟨hdr, hb1⟩
      obtain ⟨D, rfl, hs1, hs2, hD0⟩ := dw_any2 HSB.out hdr
      clear hdr hD0
      have hbx := GO1.out w1 D hb1
      have hcx := HC.out.below hbx
      have HDI := Lib.hid (show (Tryz.prog.info? 50).map (·.size) = some D.size by rw [hs1]; kernel_rfl)
      have HSD := Lib.hid hs1; have HS1 := Lib.hid hs2
      clear hs1 hs2
      go_wp2_with (first
        | (refine wpList_alloc_zero rfl 50 rfl Z HZ.out ?_)
        | (refine wpList_store_new rfl 50 _ _ rfl _ Z D rfl rfl rfl HDI.out (by rw [HSD.out, HZS.out]) HS1.out ?_)
        | (go_at_call 43; refine (HRC.out _ hcx).mono ?_; rintro e w5 ⟨⟨ro, m, rc, rfl, -⟩, hb5⟩))
      go_ret2
      exact ⟨rfl, below_step hbx hbx.size hb5⟩
    | some t =>
      have hT2 := hT
      rw [treeP_yes hP] at hT2
      have hrl : ((allR p).rooms (gridG p) (gridR p)).length = gridR p := by rw [allR_rooms hP, List.length_range]
      have HLC := Lib.hid (fun po cap w hc hD => leastCut_any (boxy_of (planP_of hP)) (cb := cb) (bo := bo) hlen HDL.out HD9.out (allR p) t (gridR p) l.length po cap w hlen (allR_clo hP) (allR_fit hP).2 hT2 hrl hc hD)
      rw [allR_rooms hP] at HLC
      rw [hT] at HRC
      have HPP := Lib.hid hP
      change Calls Tryz.prog _ _ w fun e w' => e = .returned (.tuple #[.int .i64 ((sizeT (dN l) t : Nat) : Int), .bool true]) ∧ _
      clear hT hT2 hrl hP hlen hnb hr9 hr1 hdd hp
      generalize sizeT (dN l) t = TX at *
      go_enter Tryz.func26, Tryz.ntmps26
      go_wp2_with fail
      refine (HRD.out _ HC.out HD.out).mono ?_
      rintro e w1 ⟨hdr, hb1⟩
      obtain ⟨D, rfl, hs1, hs2, hD0⟩ := dw_any2 HSB.out hdr
      clear hdr hD0
      have hbx := GO1.out w1 D hb1
      have hcx := HC.out.below hbx
      have HDI := Lib.hid (show (Tryz.prog.info? 50).map (·.size) = some D.size by rw [hs1]; kernel_rfl)
      have HSD := Lib.hid hs1; have HS1 := Lib.hid hs2
      clear hs1 hs2
      go_wp2_with (first
        | (refine wpList_alloc_zero rfl 50 rfl Z HZ.out ?_)
        | (refine wpList_store_new rfl 50 _ _ rfl _ Z D rfl rfl rfl HDI.out (by rw [HSD.out, HZS.out]) HS1.out ?_))
      refine (HRC.out _ hcx).mono ?_
      rintro e w5 ⟨⟨ro, m, rc, rfl, hcl⟩, hb5⟩
      obtain ⟨rfl, hcl2⟩ := hcl HPP.out
      have hby := below_step hbx hbx.size hb5
      have HLX := Lib.hid (HLC.out ro rc w5 hcl2 (HD.out.below hby))
      clear hcl hcl2
      go_wp2_with (go_at_call 44; refine HLX.out.mono ?_; rintro e w6 ⟨rfl, hb6⟩)
      go_ret2
      exact ⟨rfl, below_step hby hby.size hb6⟩

end Go.Proofs.YtobkbgbkkiiloaaGreat

/-
  Least widths along cuts: the model. (Walks.)
-/
namespace Go.Proofs.YtobkbgbkkiiloaaGreat
open Go.RowKit

set_option maxRecDepth 100000 in
set_option maxHeartbeats 8000000 in
theorem l7Cut_any {p : List ByteArray} (hp : PlanP p) {bo : Option Addr} {cb nl : Nat} {l : List Int} {d : Nat → Nat} (hll : l.length = nl) (hnr : gridR p ≤ nl) (hdl : ∀ a, a < nl → l.getD a 0 = ((d a : Nat) : Int)) (hd9 : ∀ a, d a ≤ 9) :
    ∀ (n : Nat) (R : Rc) (t : Tr) (ao : Option Addr) (cap : Nat) (w : World), R.Fit p.length (wideB p) → R.h + R.w ≤ n → n ≤ 12 → R.tree (gridG p) n = some t → CellsAt w ao ((subP p R).map Value.string) → CellsAt w bo (l.map (Value.int .i64)) →
    Calls Tryz.prog 46 #[.slice ao R.h cap, .slice bo nl cb] w fun e w' => e = .returned (.int .i64 ((sizeT d t : Nat) : Int)) ∧ Below w.heap.size w w'
  | 0, R, _, _, _, _, F, hn, _, _, _, _ => by have := F.h1; omega
  | n + 1, R, t, ao, cap, w, F, hn, h12, htr, hc, hD => by
    have HIH := Lib.hid (fun R t ao cap w F hn htr hc hD => l7Cut_any (bo := bo) (cb := cb) hp hll hnr hdl hd9 n R t ao cap w F hn (by omega) htr hc hD)
    have HONE := Lib.hid (l3OneR_any hp R ao cap w F hc)
    have HCUT := Lib.hid (fun w hc => l3CutR_any hp R ao cap w F hc)
    have h4n : (4 : Nat) ^ n ≤ 4 ^ 12 := Nat.pow_le_pow_right (by omega) (by omega)
    rw [show (4 : Nat) ^ 12 = 16777216 by decide] at h4n
    cases h1 : R.one (gridG p)
    · rw [h1] at HONE
      cases hcc : (R.cuts (gridG p)).head? with
      | none => rw [Rc.tree_no h1 hcc] at htr; cases htr
      | some c =>
        obtain ⟨k, hkd, hcd, hd1, hd2, hd3, hdi⟩ := kindQ_some hp F hcc
        subst hcd
        rw [hkd] at HCUT
        rw [Rc.tree_join h1 hcc] at htr
        obtain ⟨x, y, ex, ey, rfl⟩ := joinT_some htr
        have HPA := Lib.hid (fun w hc => l3PartsR_any hp R k ao cap w F hd1 hd3 hdi hc)
        have HF1 := Lib.hid (Rc.fit_left F hdi)
        have HF2 := Lib.hid (Rc.fit_right F hdi)
        have HL := Lib.hid (fun ao cap w hc hD => HIH.out _ x ao cap w HF1.out.1 (by have := HF1.out.2; omega) ex hc hD)
        have HR := Lib.hid (fun ao cap w hc hD => HIH.out _ y ao cap w HF2.out.1 (by have := HF2.out.2; omega) ey hc hD)
        have hx := sizeT_le hd9 n _ _ ex
        have hy := sizeT_le hd9 n _ _ ey
        have hTX : sizeT d (Tr.cut (absC R k).1 (absC R k).2 x y) = if k.1 = 0 then sizeT d x + sizeT d y else max (sizeT d x) (sizeT d y) := rfl
        rw [hTX]
        have HC := Lib.hid hc; have HD := Lib.hid hD
        obtain ⟨way, line⟩ := k
        simp only at hd1 HCUT HPA ⊢
        clear h1 hcc hkd hd2 hd3 hdi HIH HF1 HF2 htr ex ey hTX hc hD hdl hd9 hll hnr F hn
        generalize R.left (absC R (way, line)) = RL at *
        generalize R.right (absC R (way, line)) = RR at *
        generalize sizeT d x = tx at *
        generalize sizeT d y = ty at *
        generalize 4 ^ n = m at *
        have hx2 : tx ≤ 1000000000 := by omega
        have hy2 : ty ≤ 1000000000 := by omega
        clear hx hy h4n
        rcases (show way = 0 ∨ way = 1 by omega) with h0 | h0
        · subst h0
          rw [show ((0 : Nat) : Int) = 0 from rfl] at HCUT HPA
          rw [if_pos rfl, Int.natCast_add]
          go_enter Tryz.func46, Tryz.ntmps46
          go_wp2_with fail
          refine HONE.out.mono ?_
          rintro e w1 ⟨rfl, hb1⟩
          go_wp2_with fail
          refine (HCUT.out _ (HC.out.below hb1)).mono ?_
          rintro e w2 ⟨rfl, hb2⟩
          have hb3 := below_step hb1 hb1.size hb2
          clear hb1 hb2 HONE HCUT
          go_wp2_with fail
          refine (HPA.out _ (HC.out.below hb3)).mono ?_
          rintro e w4 ⟨ra, ca, rb, cb, rfl, hca, hcb, hb4⟩
          have hb5 := below_step hb3 hb3.size hb4
          clear hb3 hb4 HPA
          go_wp2_with fail
          refine (HL.out _ _ _ hca (HD.out.below hb5)).mono ?_
          rintro e w6 ⟨rfl, hb6⟩
          have hcb6 := hcb.below hb6
          have hb7 := below_step hb5 hb5.size hb6
          clear hb5 hb6 hcb hca HL
          go_wp2_with fail
          refine (HR.out _ _ _ hcb6 (HD.out.below hb7)).mono ?_
          rintro e w8 ⟨rfl, hb8⟩
          have hb9 := below_step hb7 hb7.size hb8
          clear hb7 hb8 hcb6 HR
          go_wp2
          go_ret
          exact ⟨rfl, hb9⟩
        · subst h0
          rw [show ((1 : Nat) : Int) = 1 from rfl] at HCUT HPA
          rw [if_neg (by decide)]
          obtain ⟨z, hz⟩ : ∃ z : Nat, max tx ty = z := ⟨_, rfl⟩
          rw [hz]
          go_enter Tryz.func46, Tryz.ntmps46
          go_wp2_with fail
          refine HONE.out.mono ?_
          rintro e w1 ⟨rfl, hb1⟩
          go_wp2_with fail
          refine (HCUT.out _ (HC.out.below hb1)).mono ?_
          rintro e w2 ⟨rfl, hb2⟩
          have hb3 := below_step hb1 hb1.size hb2
          clear hb1 hb2 HONE HCUT
          go_wp2_with fail
          refine (HPA.out _ (HC.out.below hb3)).mono ?_
          rintro e w4 ⟨ra, ca, rb, cb, rfl, hca, hcb, hb4⟩
          have hb5 := below_step hb3 hb3.size hb4
          clear hb3 hb4 HPA
          go_wp2_with fail
          refine (HL.out _ _ _ hca (HD.out.below hb5)).mono ?_
          rintro e w6 ⟨rfl, hb6⟩
          have hcb6 := hcb.below hb6
          have hb7 := below_step hb5 hb5.size hb6
          clear hb5 hb6 hcb hca HL
          go_wp2_with fail
          refine (HR.out _ _ _ hcb6 (HD.out.below hb7)).mono ?_
          rintro e w8 ⟨rfl, hb8⟩
          have hb9 := below_step hb7 hb7.size hb8
          clear hb7 hb8 hcb6 HR
          by_cases hlt : tx < ty
          · have hltI : (tx : Int) < (ty : Int) := by omega
            have hzz : z = ty := by omega
            clear hz
            subst hzz
            go_wp2
            go_ret
            exact ⟨rfl, hb9⟩
          · have hltI : ¬ (tx : Int) < (ty : Int) := by omega
            have hzz : z = tx := by omega
            clear hz
            subst hzz
            go_wp2
            go_ret
            exact ⟨rfl, hb9⟩
    · rw [h1] at HONE
      rw [Rc.tree_one h1] at htr
      cases htr
      have hrm := subP_room hp F
      have hl := subP_len F
      have hltr : gridG p R.r0 R.c0 < gridR p := gridG_lt (p := p) (i := R.r0) (j := R.c0) (by have := F.hh; have := F.h1; omega) (by have := F.hw; have := F.w1; omega)
      have hlt : gridG p R.r0 R.c0 < 9 := by have := (PlanP.few hp); omega
      have hsz := subP_size hp.grid.even F F.h1
      have f1 := F.h1; have f2 := F.w1
      have hlen : 0 < (subP p R).length := by omega
      have hv := hdl (gridG p R.r0 R.c0) (by omega)
      have hvn : gridG p R.r0 R.c0 < nl := by omega
      have hTX : sizeT d (Tr.room (gridG p R.r0 R.c0)) = d (gridG p R.r0 R.c0) := rfl
      rw [hTX]
      clear h1 HCUT HIH F hTX h4n hnr hltr
      have HC := Lib.hid hc; have HD := Lib.hid hD
      obtain ⟨b0, o0, rfl, -⟩ := hc.str 0 hlen
      clear hc hD
      unfold byteAt at hrm
      generalize hq0 : (subP p R).getD 0 ByteArray.empty = s0 at *
      generalize gridG p R.r0 R.c0 = v at *
      have hs0 : 0 < s0.size := by omega
      have hidx := at_list s0 0 hs0
      generalize s0.data.toList.getD 0 0 = cc at *
      have HQ0 := Lib.hid hq0; have HLN := Lib.hid hlen
      have hcc : ((cc.toNat : Nat) : Int) = 97 + (v : Int) := by omega
      have HSZ := Lib.hid hsz
      have hsub : ((cc.toNat : Nat) : Int) - 97 = (v : Int) := by omega
      have hx97 : (97 + (v : Int) - 97) = (v : Int) := by omega
      have hvI : (v : Int) < (nl : Int) := by omega
      have HV := Lib.hid hv
      have HLL := Lib.hid hll
      clear hq0 hl hlen hrm hsz hv hdl hll
      generalize d v = dv at *
      have hRh : (0 : Int) < (R.h : Int) := by omega
      go_enter Tryz.func46, Tryz.ntmps46
      go_wp2_with fail
      refine HONE.out.mono ?_
      rintro e w1 ⟨rfl, hb1⟩
      obtain ⟨b1, o1, e1, kc⟩ := (HC.out.below hb1).str 0 HLN.out
      cases e1
      rw [HQ0.out, Nat.add_zero] at kc
      obtain ⟨b2, o2, rfl, kd⟩ := (HD.out.below hb1).int v (by rw [HLL.out]; exact hvn)
      rw [HV.out] at kd
      go_wp2
      go_ret
      exact ⟨rfl, hb1⟩

set_option maxRecDepth 100000 in
set_option maxHeartbeats 4000000 in
theorem specSizeCut_any (ao bo : Option Addr) (ca cb : Nat) (p : List ByteArray) (l : List Int) (w : World) (hl : p.length ≤ 1048576) (hs : ∀ s ∈ p, s.size ≤ 1048576) (hll : l.length ≤ 1048576)
    (hc : CellsAt w ao (p.map Value.string)) (hd : CellsAt w bo (l.map (Value.int .i64))) :
    Calls Tryz.prog 27 #[.slice ao p.length ca, .slice bo l.length cb] w fun e w' => e = .returned (.tuple #[.int .i64 ((cutV p l : Nat) : Int), .bool (sizedB p l && (treeP p).isSome)]) ∧ Below w.heap.size w w' := by
  have HN := Lib.hid (fun (w : World) hc hd => l7Needs_any ao bo ca cb p l w hl hs hll hc hd)
  have HI := Lib.hid (fun w hc => specCutIs_any ao ca p w hl hs hc)
  have HC := Lib.hid hc; have HD := Lib.hid hd
  clear hc hd
  cases hz : sizedB p l
  · rw [show cutV p l = 0 by unfold cutV; rw [hz]; rfl, Bool.false_and]
    rw [hz] at HN
    clear hz
    go_enter Tryz.func27, Tryz.ntmps27
    go_wp2_with fail
    refine (HN.out _ HC.out HD.out).mono ?_
    rintro e w1 ⟨rfl, hb1⟩
    go_wp2
    go_ret2
    exact ⟨rfl, hb1⟩
  · obtain ⟨hp, hlen, hnb, hr9, hr1, hdd⟩ := sized_facts hz
    have hP := plainB_plan hp
    rw [show cutV p l = sizeO (dN l) (treeP p) by unfold cutV; rw [hz]; rfl, Bool.true_and]
    rw [hz] at HN
    cases hT : treeP p with
    | none =>
      rw [hT] at HI
      clear hT hP hlen hnb hr9 hr1 hdd hp hz
      change Calls Tryz.prog _ _ w fun e w' => e = .returned (.tuple #[.int .i64 0, .bool false]) ∧ _
      change Hid (∀ w _, Calls _ _ _ w fun e w' => e = .returned (.bool false) ∧ _) at HI
      go_enter Tryz.func27, Tryz.ntmps27
      go_wp2_with fail
      refine (HN.out _ HC.out HD.out).mono ?_
      rintro e w1 ⟨rfl, hb1⟩
      go_wp2_with fail
      refine (HI.out _ (HC.out.below hb1)).mono ?_
      rintro e w2 ⟨rfl, hb2⟩
      go_wp2
      go_ret2
      exact ⟨rfl, below_step hb1 hb1.size hb2⟩
    | some t =>
      have hT2 := hT
      rw [treeP_yes hP] at hT2
      have HL := Lib.hid (fun w hc hd => l7Cut_any (planP_of hP) (bo := bo) (cb := cb) (nl := l.length) (l := l) (d := dN l) rfl (by omega) (fun a ha => (needB_at hnb ha).1) (needB_all hnb) 12 (allR p) t ao ca w (allR_fit hP).1 (allR_fit hP).2 (Nat.le_refl _) hT2 hc hd)
      have e1 : subP p (allR p) = p := subP_all (planP_of hP).grid.even
      have e2 : (allR p).h = p.length := rfl
      rw [e1, e2] at HL
      rw [hT] at HI
      clear hT hT2 hP hlen hnb hr9 hr1 hdd hp hz e1 e2
      change Calls Tryz.prog _ _ w fun e w' => e = .returned (.tuple #[.int .i64 ((sizeT (dN l) t : Nat) : Int), .bool true]) ∧ _
      change Hid (∀ w _, Calls _ _ _ w fun e w' => e = .returned (.bool true) ∧ _) at HI
      generalize sizeT (dN l) t = TX at *
      go_enter Tryz.func27, Tryz.ntmps27
      go_wp2_with fail
      refine (HN.out _ HC.out HD.out).mono ?_
      rintro e w1 ⟨rfl, hb1⟩
      go_wp2_with fail
      refine (HI.out _ (HC.out.below hb1)).mono ?_
      rintro e w2 ⟨rfl, hb2⟩
      have hb3 := below_step hb1 hb1.size hb2
      go_wp2_with fail
      refine (HL.out _ (HC.out.below hb3) (HD.out.below hb3)).mono ?_
      rintro e w4 ⟨rfl, hb4⟩
      go_wp2
      go_ret2
      exact ⟨rfl, below_step hb3 hb3.size hb4⟩

end Go.Proofs.YtobkbgbkkiiloaaGreat
