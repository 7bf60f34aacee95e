
/-
  The fewest steps from a room to all others: the program's answer. (Walk.)
-/
import Derived.Test.YtgiikdcjigcnlaaBfsS
import Derived.Test.YtgiikdcjigcnlaaWin
import Derived.Test.YtgiikdcjigcnlaaNine
import Derived.Deep.LoopGhost
import Derived.LaidEqlPtr
import Derived.Deep.Cut
import Derived.Lib.Builder

namespace Go.Proofs.Ytgiikdcjigcnlaa
open Go.RowKit

theorem lnk_adj (f : Nat → Nat → Nat) (n y : Nat) : (lnk n (f y)).map (·.1) = adjF f n y := by
  unfold lnk lnkL adjF
  rw [List.map_map]
  exact List.map_id _
theorem lnk_adj_len (f : Nat → Nat → Nat) (n y : Nat) : (adjF f n y).length = (lnk n (f y)).length := by rw [← lnk_adj, List.length_map]
theorem lnk_adj_at (f : Nat → Nat → Nat) (n y k : Nat) (h : k < (lnk n (f y)).length) : ((lnk n (f y)).getD k (0, 0)).1 = (adjF f n y).getD k 0 := by
  rw [← lnk_adj, List.getD_eq_getElem?_getD, List.getD_eq_getElem?_getD, List.getElem?_map, List.getElem?_eq_getElem h]; rfl

/-- rooms as they stand in a row: where their cells begin -/
def ptrsQ (Q : Nat) (L : List Nat) : List Value := L.map fun x => .pointer (some ⟨Q + x, 0, none⟩)
theorem ptrsQ_snoc (Q : Nat) (L : List Nat) (x : Nat) : ptrsQ Q (L ++ [x]) = ptrsQ Q L ++ [.pointer (some ⟨Q + x, 0, none⟩)] := by simp [ptrsQ]
theorem ptrsQ_drop (Q : Nat) (L : List Nat) {i : Nat} (h : i < L.length) : ptrsQ Q (L.drop i) = .pointer (some ⟨Q + L.getD i 0, 0, none⟩) :: ptrsQ Q (L.drop (i + 1)) := by
  rw [List.drop_eq_getElem_cons h, List.getD_eq_getElem?_getD, List.getElem?_eq_getElem h]; rfl

/-- what lies in memory while rooms are reached -/
structure StI (w : World) (Q R : Nat) (s : Bf) (i : Nat) (ra : Addr) (rc : Nat) (wr : World) : Prop where
  out : HeldB wr (R + 1) 41 (nineC fun b => s.D b - 1)
  res : HeldB wr R 41 (nineC fun _ => 0)
  q : ownsWin wr w.heap.size 42 ra (s.q.length - i) rc (ptrsQ Q (s.q.drop i))
  ne1 : ra.block ≠ R + 1
  ne2 : ra.block ≠ R
  below : Below w.heap.size w wr
theorem StI.step {w wr w' : World} {Q R : Nat} {s : Bf} {i : Nat} {ra : Addr} {rc : Nat} (h : StI w Q R s i ra rc wr) (hb : Below wr.heap.size wr w') : StI w Q R s i ra rc w' :=
  ⟨h.out.below hb, h.res.below hb, h.q.below hb, h.ne1, h.ne2, below_step h.below h.below.size hb⟩

theorem Try.sizeCha : (Try.prog.info? 62).map (·.size) = some 2 := by kernel_rfl
/-- whether two rooms' cells are not the same ones -/
theorem run_neq_cha (w : World) {a b : Nat} {A B : Array Value} (ha : HeldB w a 62 A) (hb : HeldB w b 62 B) :
    (binOp .neq 42 (.pointer (some ⟨a, 0, none⟩)) (.pointer (some ⟨b, 0, none⟩))).run Try.prog w = .ok (.bool (decide (a ≠ b))) w := by
  obtain ⟨j, hj, hj2⟩ : ∃ j, Try.prog.info? 62 = some j ∧ j.size = 2 := by
    have h := Try.sizeCha
    cases hh : Try.prog.info? 62 with
    | none => rw [hh] at h; cases h
    | some i => rw [hh] at h; exact ⟨i, rfl, by simpa using h⟩
  by_cases hab : a = b
  · subst hab
    rw [Lib.run_neq_ptr_same w _ Try.underlying42 hj]
    simp
  · have hne : (⟨a, 0, none⟩ : Addr) ≠ ⟨b, 0, none⟩ := fun he => hab (by simp at he)
    have h : ∀ d : Nat, (Op.equalIn (d + 1) 42 (.pointer (some ⟨a, 0, none⟩)) (.pointer (some ⟨b, 0, none⟩))).run Try.prog w = .ok false w := fun d => by
      simp [Op.equalIn, run_underlying Try.underlying42, sizeOf, typeInfo, hj, hj2, run_sameAddr_other w hne ha hb]
    simp only [binOp]
    simp [Op.equal, Op.maxDepth, h 9999, hab]
theorem guard_cha (op : BinOp) (x y : Operand) (a b : Addr) (w : World) : (eqGuard op 42 x y (.pointer (some a)) (.pointer (some b))).run Try.prog w = .ok () w := by
  unfold eqGuard
  cases op <;> first | (simp; done) | simp [Try.underlying42]

set_option maxRecDepth 100000 in
set_option maxHeartbeats 8000000 in
theorem steps_any (Q n a : Nat) (f : Nat → Nat → Nat) (K : Nat → Prop) (so : Nat → Option Addr) (sc : Nat → Nat) (w : World) (hn : n ≤ 9) (ha : a < n) (h : ChB w Q n f K so sc) :
    Calls Try.prog 25 #[.pointer (some ⟨Q + a, 0, none⟩)] w
      fun e w' => e = .returned (.agg (nineC fun b => (bfsB (adjF f n) a n).D b - 1)) ∧ Below w.heap.size w w' := by
  obtain ⟨ip, hpi0, hpz, hp1, hp2⟩ := info_parts Try.infoPtr
  have HZ := Lib.hid zero_nineC
  have HI := Lib.hid (bfsB_inv (adj := adjF f n) ha (fun y => adjF_lt f n y))
  have H1 := Lib.hid (bfsB_one (adj := adjF f n) ha (fun y => adjF_lt f n y))
  have HE := Lib.hid (fun i (hi : i ≤ n) h => bfsB_end (adj := adjF f n) (a := a) hi h)
  have HS := Lib.hid (fun i (h : i < (bfsB (adjF f n) a i).q.length) => show bfsB (adjF f n) a (i + 1) = tchsB _ _ _ from if_pos h)
  have HAL := Lib.hid (fun y => adjF_lt f n y)
  have HAN := Lib.hid (fun y => adjF_len f n y)
  have HLA := Lib.hid (fun y => lnk_adj_len f n y)
  have HLG := Lib.hid (fun y k hk => lnk_adj_at f n y k hk)
  have H0 := Lib.hid (show bfsB (adjF f n) a 0 = ⟨fun y => if y = a then 1 else 0, [a]⟩ from rfl)
  have HST := Lib.hid (fun i => bfsB_start (adj := adjF f n) a i)
  have HC := Lib.hid h
  have HRM := Lib.hid (fun y => h.rms y)
  generalize hadj : adjF f n = adj at *
  clear hadj h
  have hR1 := HeldB.new w 41 (nineC fun _ => 0)
  have hN1 := HeldB.new (w.alloc (.cells (nineC fun _ => 0) 41)) 41 (nineC fun _ => 0)
  have hq1 := owns_lit ((w.alloc (.cells (nineC fun _ => 0) 41)).alloc (.cells (nineC fun _ => 0) 41)) w.heap.size 42 [.pointer (some ⟨Q + a, 0, none⟩)] (by simp; omega) (by unfold maxLen; simp)
  rw [World.size_alloc] at hN1
  rw [World.size_alloc, World.size_alloc] at hq1
  have hst0 : StI w Q w.heap.size (bfsB adj a 0) 0 ⟨w.heap.size + 1 + 1, 0, none⟩ 1 (((w.alloc (.cells (nineC fun _ => 0) 41)).alloc (.cells (nineC fun _ => 0) 41)).alloc (.cells #[.pointer (some ⟨Q + a, 0, none⟩)] 42)) := by
    rw [H0.out]
    refine ⟨(hN1.alloc _).eq (nineC_same fun b _ => ?_), (hR1.alloc _).alloc _, ownsWin.of hq1, by simp, by simp; omega, ?_⟩
    · show 0 = (if b = a then 1 else 0) - 1
      split <;> rfl
    · exact (((Below.refl _ _).alloc (Nat.le_refl _) _).alloc (by simp) _).alloc (by simp; omega) _
  have HST0 := Lib.hid hst0
  clear hst0 hR1 hN1 hq1
  generalize hZe : nineC (fun _ => 0) = Z at *
  have HZe := Lib.hid hZe
  clear hZe
  go_enter Try.func25, Try.ntmps25
  go_wp2_with (first
    | (refine wpList_alloc_zero rfl 41 rfl Z HZ.out ?_))
  have hst0 := HST0.out
  have HL1 := Lib.hid (show (bfsB adj a 0).q.length = 1 by rw [H0.out]; rfl)
  have hRw := Nat.le_refl w.heap.size
  clear HST0 H0
  obtain ⟨R, hR⟩ : ∃ R, R = w.heap.size := ⟨_, rfl⟩
  have hRw : w.heap.size ≤ R := by omega
  have HRR := Lib.hid hR
  have hst1 : StI w Q R (bfsB adj a 0) 0 ⟨R + 1 + 1, 0, none⟩ 1 (((w.alloc (.cells Z 41)).alloc (.cells Z 41)).alloc (.cells #[.pointer (some ⟨Q + a, 0, none⟩)] 42)) := by rw [hR]; exact hst0
  rw [← hR]
  clear hst0 hR
  generalize ((w.alloc (.cells Z 41)).alloc (.cells Z 41)).alloc (.cells #[.pointer (some ⟨Q + a, 0, none⟩)] 42) = W0 at *
  go_loopg [4] n (fun gk vr wr => ∃ (i : Nat) (ra : Addr) (rc : Nat), i + gk = n ∧ i ≤ (bfsB adj a i).q.length ∧ vr = .slice (some ra) ((bfsB adj a i).q.length - i) rc ∧ StI w Q R (bfsB adj a i) i ra rc wr)
  case atStart => exact ⟨0, _, _, by omega, Nat.zero_le _, by rw [HL1.out], hst1⟩
  case round =>
    clear hst1
    obtain ⟨i, ra, rc, hgk, hiq, rfl, hst⟩ := hrel
    have hI := HI.out i
    have hqn := hI.few
    by_cases hlt : i < (bfsB adj a i).q.length
    · have HSS := Lib.hid (HS.out i hlt)
      have HLN := Lib.hid (show i + 1 ≤ (bfsB adj a (i + 1)).q.length by
        rw [HSS.out]; exact Nat.le_trans hlt (BfG.tchs _ _ _).len)
      have hyq : (bfsB adj a i).q.getD i 0 ∈ (bfsB adj a i).q := getD_mem 0 hlt
      have hyn := hI.lt _ hyq
      have HAT := Lib.hid (fun t (h : BfG (bfsB adj a i) t) => h.at hlt)
      have HDR := Lib.hid (ptrsQ_drop Q (bfsB adj a i).q hlt)
      have HYP := Lib.hid (hI.pos _ hyq)
      have H1S := Lib.hid (H1.out i)
      have HSA := Lib.hid (HST.out i)
      generalize hs0 : bfsB adj a i = s at *
      generalize hy0 : s.q.getD i 0 = y at *
      have hq0 := hst.q
      rw [HDR.out] at hq0
      have hcy := hq0.cells 0 _ rfl
      obtain ⟨g, off, rfl⟩ : ∃ g off, ra = ⟨g, off, none⟩ := by obtain ⟨g, off, _, he, _⟩ := hq0; exact ⟨g, off, he⟩
      have hcy0 : wr.cell? ⟨g, off, none⟩ = some (.pointer (some ⟨Q + y, 0, none⟩)) := by
        obtain ⟨b, o, he, hc⟩ := hcy
        simp only [Option.some.injEq, Addr.mk.injEq, and_true] at he
        obtain ⟨rfl, rfl⟩ := he
        exact hc
      have hcl : wr.cell? ⟨Q + y, 1, none⟩ = some (.slice (so y) (lnk n (f y)).length (sc y)) := ((HC.out.below hst.below).1 y hyn).cell 1
      obtain ⟨m, hm⟩ : ∃ m, s.q.length - i = m + 1 := ⟨s.q.length - i - 1, by omega⟩
      rw [hm] at hq0
      have hq1 := hq0.tailA
      have hlm : s.q.length - (i + 1) = m := by omega
      have hm9 : m ≤ 9 := by omega
      have hst5 : StI w Q R s (i + 1) (tailA ⟨g, off, none⟩ rc) (rc - 1) wr := ⟨hst.out, hst.res, by rw [hlm]; exact hq1, by rw [tailA_block]; exact hst.ne1, by rw [tailA_block]; exact hst.ne2, hst.below⟩
      have hmp : ((0 : Int) < ((m + 1 : Nat) : Int)) := by omega
      have HM := Lib.hid hm
      have HLM := Lib.hid hlm
      have HHI := Lib.hid (And.intro hI (And.intro hqn (And.intro hlt hiq)))
      have HY2 := Lib.hid hyq
      rw [hm]
      have hcw := HC.out.2.1 y hyn
      have HRW := Lib.hid (ownsK_cells hcw)
      have HRY := Lib.hid (HRM.out y)
      have HLX := Lib.hid (fun k hk => (lnk_mem (getD_mem (0, 0) hk : (lnk n (f y)).getD k (0, 0) ∈ lnk n (f y))).1)
      have hll := lnk_len n (f y)
      have HLK := Lib.hid (fun k hk => HLG.out y k hk)
      have HAL2 := Lib.hid (HLA.out y)
      have HBG := Lib.hid (fun (wm : World) (hb : Below w.heap.size w wm) x (hx : x < n) => ((HC.out.below hb).1 x hx).cell 0)
      have hSL := owns_lt hcw
      have hbl := hst.below.size
      have HSB := Lib.hid (show ∀ b, so y = some b → b.block < w.heap.size from fun b hb => (hSL b hb).2)
      clear hst hq0 hq1 hcy hm hlm hI hs0 hy0 hyq hqn hlt hiq hcw hSL hbl
      generalize hmm : m + 1 = m1 at *
      have hmm1 : m1 ≤ 10 := by omega
      have hm1p : 0 < m1 := by omega
      have hm1q : 1 ≤ m1 := by omega
      have HMM := Lib.hid hmm
      clear hmm
      generalize so y = sy at *
      generalize sc y = cy at *
      generalize hLy : lnk n (f y) = L at *
      have HLy := Lib.hid hLy
      clear hLy
      generalize hAy : adj y = A at *
      have HAy := Lib.hid hAy
      clear hAy
      go_wp2_with (refine wpList_tail rfl 38 _ rfl _ _ _ rfl hm1q Try.underlying38 (by kernel_rfl) ?_)
      have HTA := Lib.hid (tailA_block ⟨g, off, none⟩ rc)
      generalize tailA ⟨g, off, none⟩ rc = rb at *
      generalize hrc1 : rc - 1 = rc1 at *
      clear hrc1
      obtain ⟨m', hmm'⟩ : ∃ m', m1 - 1 = m' := ⟨_, rfl⟩
      have HM1 := Lib.hid (show m' = m by have := HMM.out; omega)
      rw [hmm']
      have hm1e := HM1.out
      subst hm1e
      clear hmm' hmp hmm1 hm1p hm1q hcy0 hcl HTA
      have hst6 : StI w Q R (tchsB y s (A.take 0)) (i + 1) rb rc1 wr := hst5
      have HL6 := Lib.hid (show (tchsB y s (A.take 0)).q.length - (i + 1) = m' from HLM.out)
      have HTK := Lib.hid (fun k (hk : k < A.length) => show tchsB y s (A.take (k + 1)) = tchB y (tchsB y s (A.take k)) (A.getD k 0) by rw [take_succ_getD A k 0 hk, tchsB_snoc])
      have HXA := Lib.hid (fun x (hx : x ∈ A) => HAL.out y x (by rw [HAy.out]; exact hx))
      have HTI := Lib.hid (fun k => HHI.out.1.tchs (y := y) (A.take k) (fun x hx => HXA.out x (List.mem_of_mem_take hx)))
      have HTG := Lib.hid (fun k => BfG.tchs y (A.take k) s)
      have HT1 := Lib.hid (fun k => tchsB_one (y := y) (A.take k) H1S.out HYP.out)
      have HTL := Lib.hid (show tchsB y s (A.take L.length) = tchsB y s A by rw [← HAL2.out, List.take_length])
      clear hst5
      go_loopw [4, 23] (fun vr vk wm => ∃ (k : Nat) (ra : Addr) (rc : Nat), k ≤ L.length ∧ vk = .int .i64 k ∧ vr = .slice (some ra) ((tchsB y s (A.take k)).q.length - (i + 1)) rc ∧ StI w Q R (tchsB y s (A.take k)) (i + 1) ra rc wm) (fun _ vk _ => L.length - (intOf vk).toNat)
      case atStart => exact ⟨0, _, _, Nat.zero_le _, rfl, by rw [HL6.out], hst6⟩
      case round =>
        clear hst6
        obtain ⟨k, ra, rc, hk, rfl, rfl, hst⟩ := hrel
        by_cases hkl : k < L.length
        · have hkl' : decide ((k : Int) < (L.length : Int)) = true := by rw [decide_eq_true_eq]; omega
          have hJ := HTI.out k
          have hG := HTG.out k
          have hO := HT1.out k
          have HTS := Lib.hid (HTK.out k (by rw [HAL2.out]; exact hkl))
          have HTN := Lib.hid (HTI.out (k + 1)).few
          obtain ⟨bb, off, rfl, hrg⟩ := lnk_range (HRW.out.below hst.below) hkl
          have hxn := HLX.out k hkl
          have HKX := Lib.hid (HLK.out k hkl)
          obtain ⟨X, hX⟩ : ∃ X, L.getD k (0, 0) = X := ⟨_, rfl⟩
          rw [hX] at hrg hxn HKX
          clear hX
          obtain ⟨x, mx⟩ := X
          simp only at hxn HKX
          rw [← HKX.out] at HTS
          rw [HTS.out] at HTN
          have hcx := (HBG.out _ hst.below x hxn).trans rfl
          generalize tchsB y s (A.take k) = t at *
          have hbX := HeldB.new wr 64 (lnkC1 Q (x, mx)).toArray
          have c0 : (wr.alloc (.cells (lnkC1 Q (x, mx)).toArray 64)).cell? ⟨wr.heap.size, 0, none⟩ = some (.pointer (some ⟨Q + x, 0, none⟩)) := (hbX.cell 0).trans rfl
          have hst8 := hst.step (below_alloc wr (.cells (lnkC1 Q (x, mx)).toArray 64))
          have cx : (wr.alloc (.cells (lnkC1 Q (x, mx)).toArray 64)).cell? ⟨Q + x, 0, none⟩ = some (.int .i64 (x : Nat)) := (HBG.out _ hst8.below x hxn).trans rfl
          have cs : (wr.alloc (.cells (lnkC1 Q (x, mx)).toArray 64)).cell? ⟨R + 1, x, none⟩ = some (.int .i64 ((t.D x - 1 : Nat) : Int)) := (hst8.out.cell x).trans (nineC_at (by omega))
          have hzl : (Try.prog.info? 64).map (·.size) = some (lnkC1 Q (x, mx)).toArray.size := by kernel_rfl
          have HZL := Lib.hid hzl
          have HON := Lib.hid (show (lnkC1 Q (x, mx)).toArray.all (·.oneCell') = true by rw [Array.all_eq_true_iff_forall_mem]; intro v hv; exact lnk_one Q _ v (by simpa using hv))
          have HRG := Lib.hid hrg
          have hx9 : (x : Int) < 9 := by omega
          have HLB := Lib.hid (below_alloc wr (.cells (lnkC1 Q (x, mx)).toArray 64)).size
          have hbX2 := Lib.hid hbX
          have HRB := Lib.hid (And.intro hst.out.lt hst.res.lt)
          have hgn := guard_cha .neq (.tmp 28) (.tmp 29) ⟨Q + x, 0, none⟩ ⟨Q + a, 0, none⟩ (wr.alloc (.cells (lnkC1 Q (x, mx)).toArray 64))
          have hrn := run_neq_cha _ ((HC.out.below hst8.below).1 x hxn) ((HC.out.below hst8.below).1 a ha)
          clear hbX hst hzl hrg hcx
          by_cases hxa : x = a
          · have hD : t.D x ≠ 0 := by
              rw [hxa, hG.D a (by rw [HSA.out]; decide), HSA.out]; decide
            rw [tchB_old hD] at HTS
            rw [decide_eq_false (show ¬ (Q + x ≠ Q + a) by omega)] at hrn
            have HXA2 := Lib.hid hxa
            clear hxa
            go_upto_region 9 with (first
              | (refine wpList_load_mid rfl 64 _ rfl bb (off + k * 2) rfl (lnkC1 Q (x, mx)) _ HRG.out Try.underlying64 rfl Try.sizeLnk ?_)
              | (refine wpList_store_new rfl 64 _ _ rfl _ #[.pointer none, .int .i64 0] (lnkC1 Q (x, mx)).toArray rfl rfl rfl HZL.out rfl HON.out ?_))
            go_wp2
            go_roundw
            case rel => exact ⟨k + 1, ra, rc, by omega, by go_num, by rw [HTS.out], by rw [HTS.out]; exact hst8⟩
            case measure => simp [intOf]; omega
          · rw [decide_eq_true (show Q + x ≠ Q + a by omega)] at hrn
            by_cases hD : t.D x = 0
            · have HTN2 := HTN.out
              rw [tchB_new hD] at HTS HTN2
              rw [hD] at cs
              have hpy : 0 < t.D y := by rw [hG.D y HYP.out]; exact HYP.out
              have csy := (hst8.out.cell y).trans (nineC_at (by omega))
              have cy0 : (wr.alloc (.cells (lnkC1 Q (x, mx)).toArray 64)).cell? ⟨Q + y, 0, none⟩ = some (.int .i64 (y : Nat)) := (HBG.out _ hst8.below y hyn).trans rfl
              have hly := hJ.le y
              have hfew := hJ.few
              obtain ⟨v, hv⟩ : ∃ v, t.D y = v + 1 := ⟨t.D y - 1, by omega⟩
              rw [hv] at csy hly HTS
              rw [Nat.add_sub_cancel] at csy
              have hq9 : t.q.length + 1 ≤ 9 := by rw [List.length_append] at HTN2; simp at HTN2; omega
              have hv9 : v ≤ 9 := by omega
              have hfz := hst8.out.frozen x
              have hRV : R + 1 < wr.heap.size := by
                have := hst8.res.lt
                have h2 := HeldB.lt (hst8.out)
                have h3 : (wr.alloc (.cells (lnkC1 Q (x, mx)).toArray 64)).heap.size = wr.heap.size + 1 := by simp
                have h4 := HRB.out
                omega
              have hqi : i + 1 ≤ t.q.length := by have := hG.len; have := HHI.out.2.2.1; omega
              have HW9 := Lib.hid (show StI w Q R ⟨updD t.D x (v + 1 + 1), t.q⟩ (i + 1) ra rc ((wr.alloc (.cells (lnkC1 Q (x, mx)).toArray 64)).setCell ⟨R + 1, x, none⟩ (.int .i64 ((v : Int) + 1))).drew from
                ⟨by
                  have h1 := (hst8.out.set x (.int .i64 ((v + 1 : Nat) : Int))).eq (nineC_put _ (by omega) (v + 1))
                  refine HeldB.eq (HeldB.drew (show HeldB _ (R + 1) _ _ from h1)) (nineC_same fun b _ => ?_)
                  show (if b = x then v + 1 else t.D b - 1) = updD t.D x (v + 1 + 1) b - 1
                  unfold updD
                  split <;> rfl, (hst8.res.other (a := ⟨R + 1, x, none⟩) (by show R ≠ R + 1; omega) _).drew,
                 hst8.q.kept (Below.heap_setCell _ ⟨R + 1, x, none⟩ _ _ hst8.ne1), hst8.ne1, hst8.ne2, (hst8.below.setCell (p := ⟨R + 1, x, none⟩) (by show w.heap.size ≤ R + 1; omega) _).trans (below_drewN _ _ 1)⟩)
              have HC0 := Lib.hid (show ((wr.alloc (.cells (lnkC1 Q (x, mx)).toArray 64)).setCell ⟨R + 1, x, none⟩ (.int .i64 ((v : Int) + 1))).drew.cell? ⟨wr.heap.size, 0, none⟩ = some (.pointer (some ⟨Q + x, 0, none⟩)) from by
                have := (hbX2.out.other (a := ⟨R + 1, x, none⟩) (by show wr.heap.size ≠ R + 1; omega) (.int .i64 ((v : Int) + 1))).drew
                exact (this.cell 0).trans rfl)
              have hx6 : (x : Int) < (n : Int) := by omega
              have hy9 : (y : Int) < 9 := by omega
              clear hxa hv hly hD hpy HTN2
              go_upto_region 9 with (first
                | (refine wpList_load_mid rfl 64 _ rfl bb (off + k * 2) rfl (lnkC1 Q (x, mx)) _ HRG.out Try.underlying64 rfl Try.sizeLnk ?_)
                | (refine wpList_store_new rfl 64 _ _ rfl _ #[.pointer none, .int .i64 0] (lnkC1 Q (x, mx)).toArray rfl rfl rfl HZL.out rfl HON.out ?_))
              generalize wr.alloc (.cells (lnkC1 Q (x, mx)).toArray 64) = W8 at *
              generalize wr.heap.size = V at *
              go_wp2
              go_region
              have hs9 := HW9.out
              have hc9 := HC0.out
              clear HW9 HC0 c0 cx cs csy cy0 hgn hrn hfz hst8 hbX2 HRG HLB
              generalize (W8.setCell ⟨R + 1, x, none⟩ (.int .i64 ((v : Int) + 1))).drew = W9 at *
              obtain ⟨m2, hm2⟩ : ∃ m2, t.q.length - (i + 1) = m2 := ⟨_, rfl⟩
              have hown := hs9.q
              have hown' : ownsWin W9 w.heap.size 42 ra m2 rc (ptrsQ Q (t.q.drop (i + 1))) := by rw [← hm2]; exact hown
              rw [hm2]
              have hm9 : m2 + 1 ≤ 9 := by omega
              have HM2 := Lib.hid hm2
              have hb1' : m2 + 1 ≤ maxLen := by unfold maxLen; omega
              have hb2' : (m2 + 1) * 8 ≤ 140737488355328 := by omega
              have hbw := hs9.below.size
              have hown2 := hown'.alloc (.cells #[.pointer (some ⟨Q + x, 0, none⟩)] 42)
              have HS9 := Lib.hid hs9
              clear hm2 hown hown' hs9
              go_wp2_with (at_builtin; refine wpList_pushW _ rfl (.tmp 54) (.tmp 57) 38 rfl w.heap.size 42 ip (.pointer none) 8 Try.underlying38 hpi0 hpz hp1 hp2 rfl ra m2 rc _ rfl hown2 _ _ _ rfl (cell_new _ _ _) rfl hb1' hb2' (by simp; omega) ?_; intro ra2 rc2 w4 hrow2 hg2 hnew2)
              have hne1 := HS9.out.ne1
              have hne2 := HS9.out.ne2
              have hrl := (HS9.out.q).lt
              have hR9 := HS9.out.out.lt
              have hz := hg2.size
              rw [World.size_alloc] at hz
              rw [World.size_alloc] at hnew2
              have f1 := (HS9.out.out.alloc _).kept hg2 (by simp only [ne_eq, Option.some.injEq]; omega)
              have f2 := (HS9.out.res.alloc _).kept hg2 (by simp only [ne_eq, Option.some.injEq]; omega)
              have f3 : ra2.block ≠ R + 1 ∧ ra2.block ≠ R := by
                rcases hnew2 with rfl | h'
                · exact ⟨hne1, hne2⟩
                · exact ⟨by omega, by omega⟩
              have f4 := (HS9.out.below.alloc hbw _).trans (below_of_grownBy hg2 (by rw [World.size_alloc]; omega) (fun k hk => by simp only [Option.some.injEq] at hk; omega))
              rw [← ptrsQ_snoc, ← List.drop_append_of_le_length hqi] at hrow2
              have hlen : (t.q ++ [x]).length - (i + 1) = m2 + 1 := by have := HM2.out; rw [List.length_append]; simp; omega
              have f5 : StI w Q R (tchsB y s (A.take (k + 1))) (i + 1) ra2 rc2 w4 := by
                rw [HTS.out]
                exact ⟨f1, f2, by rw [hlen]; exact hrow2, f3.1, f3.2, f4⟩
              have HLL := Lib.hid (show (tchsB y s (A.take (k + 1))).q.length - (i + 1) = m2 + 1 by rw [HTS.out]; exact hlen)
              clear hrow2 f1 f2 f3 f4 hg2 hnew2 HS9 hown2 hlen
              go_roundw
              case rel => exact ⟨k + 1, ra2, rc2, by omega, by go_num, by rw [HLL.out], f5⟩
              case measure => simp [intOf]; omega
            · rw [tchB_old hD] at HTS
              obtain ⟨v, hv⟩ : ∃ v, t.D x - 1 = v + 1 := by
                have h1 : t.D x ≠ 1 := fun h1 => hxa (hO x h1)
                exact ⟨t.D x - 2, by omega⟩
              rw [hv] at cs
              have hle := hJ.le x
              have hfew := hJ.few
              have hv9 : v + 1 ≤ 9 := by omega
              clear hxa hv hle hfew hD
              go_upto_region 9 with (first
                | (refine wpList_load_mid rfl 64 _ rfl bb (off + k * 2) rfl (lnkC1 Q (x, mx)) _ HRG.out Try.underlying64 rfl Try.sizeLnk ?_)
                | (refine wpList_store_new rfl 64 _ _ rfl _ #[.pointer none, .int .i64 0] (lnkC1 Q (x, mx)).toArray rfl rfl rfl HZL.out rfl HON.out ?_))
              go_wp2
              go_roundw
              case rel => exact ⟨k + 1, ra, rc, by omega, by go_num, by rw [HTS.out], by rw [HTS.out]; exact hst8⟩
              case measure => simp [intOf]; omega
        · have hkl' : decide ((L.length : Int) < (L.length : Int)) = false := by rw [decide_eq_false_iff_not]; omega
          obtain rfl : k = L.length := by omega
          rw [HTL.out, ← HSS.out] at hst
          have HQL := Lib.hid (show (tchsB y s (A.take L.length)).q.length - (i + 1) = (bfsB adj a (i + 1)).q.length - (i + 1) by rw [HTL.out, HSS.out])
          have HGK := Lib.hid (show 0 < gk by have := HHI.out; omega)
          go_wp2
          go_roundg (gk - 1)
          case measure => have := HGK.out; omega
          case rel => exact ⟨i + 1, ra, rc, by have := HGK.out; omega, HLN.out, by rw [HQL.out], hst⟩
    · have hqe : (bfsB adj a i).q.length - i = 0 := by omega
      have hin : i ≤ n := by omega
      have hE := HE.out i hin (by omega)
      rw [hqe]
      have hres := hst.res
      have hout := hst.out
      have hbl := hst.below
      have hres2 : HeldB wr R 41 Z := by rw [← HZe.out]; exact hres
      have HO2 := Lib.hid (show HeldB wr (R + 1) 41 (nineC fun b => (bfsB adj a n).D b - 1) by rw [hE]; exact hout)
      clear hst hout hres hqe hE
      have hN9 : (nineC fun b => (bfsB adj a n).D b - 1).size = 9 := nineC_size _
      have hN1 : (nineC fun b => (bfsB adj a n).D b - 1).all (·.oneCell') = true := by
        unfold nineC; rw [Array.all_eq_true_iff_forall_mem]; intro v hv
        simp at hv; obtain ⟨_, _, rfl⟩ := hv; rfl
      have hZ9 : Z.size = 9 := by rw [← HZe.out]; exact nineC_size _
      generalize hNe : (nineC fun b => (bfsB adj a n).D b - 1) = N at *
      have HNE := Lib.hid hNe
      clear hNe
      have HSN := Lib.hid (show (Try.prog.info? 41).map (·.size) = some N.size by rw [hN9]; kernel_rfl)
      have HZN := Lib.hid (show Z.size = N.size by rw [hZ9, hN9])
      have HN1 := Lib.hid hN1
      clear hN1 hN9 hZ9
      go_wp2_with (first
        | (refine wpList_load_row rfl 41 _ rfl (R + 1) rfl 41 N (0, 0) _ HO2.out Try.underlying41 rfl HSN.out ?_)
        | (refine wpList_store_row rfl 41 _ _ rfl R N rfl rfl 41 Z hres2 HSN.out HZN.out HN1.out ?_))
      exact bodyPost_ret (v := .agg N) (results_cell_row Try.results25 _ _ R 41 N (0, 0) _ rfl (hres2.setRow N) Try.underlying41 rfl HSN.out) rfl ⟨by rw [HNE.out], below_setRowB hbl hRw _⟩
end Go.Proofs.Ytgiikdcjigcnlaa
