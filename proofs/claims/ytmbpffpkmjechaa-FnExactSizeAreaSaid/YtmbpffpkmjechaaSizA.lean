
/-
  The program's greatest sums of needs, and the least width. (Walks.)
-/
import Derived.Test.YtmbpffpkmjechaaSizQ
import Derived.Maps.AppendAt
import Derived.Lib.SliceRun
import Derived.Lib.BufferMore
namespace Go.Proofs.Ytmbpffpkmjechaa
open Go.RowKit

set_option maxRecDepth 100000 in
set_option maxHeartbeats 4000000 in
theorem isApart_any {C : Array Value} (hC : C.size = 39) (F : Nat → Nat → Nat → Bool) (way : Nat) (hw : way < 2) (v : Value) (a b : Nat) (w : World) (ha : a < 9) (hb : b < 9) :
    Calls Try.prog 43 #[.agg (dwC (ordC C F) (way : Int) v), .int .i64 (a : Int), .int .i64 (b : Int)] w fun e w' => e = .returned (.bool (F way a b || F way b a)) ∧ Below w.heap.size w w' := by
  have hO := ordC_size hC F
  have hB := HeldB.new w 49 (dwC (ordC C F) (way : Int) v)
  have hbl := below_alloc w (.cells (dwC (ordC C F) (way : Int) v) 49)
  have k0 := (hB.cell 201).trans (dwC_way hO _ _)
  have k1 := (hB.cell (39 + way * 81 + a * 9 + b)).trans ((dwC_lo (by rw [hO]; omega) _ _).trans (ordC_at hC F hw ha hb))
  have k2 := (hB.cell (39 + way * 81 + b * 9 + a)).trans ((dwC_lo (by rw [hO]; omega) _ _).trans (ordC_at hC F hw hb ha))
  generalize dwC (ordC C F) (way : Int) v = D at *
  have hwi : (way : Int) < 2 := by omega
  have ha9 : (a : Int) < 9 := by omega
  have hb9 : (b : Int) < 9 := by omega
  clear hB hO
  generalize F way b a = y at *
  cases hx : F way a b
  · rw [hx] at k1
    clear hx
    go_enter Try.func43, Try.ntmps43
    go_wp2
    go_ret
    exact ⟨rfl, hbl⟩
  · rw [hx] at k1
    clear hx
    go_enter Try.func43, Try.ntmps43
    go_wp2
    go_ret
    exact ⟨rfl, hbl⟩
theorem Try.infoNd : (Try.prog.info? 66).map (fun i => (i.zero, i.size, i.bytes)) = some (some (.agg #[.int .i64 0, .int .i64 0]), 2, 16) := by kernel_rfl
theorem ndL_one (d : Nat → Nat) (L : List Nat) : ∀ v ∈ ndL d L, v.oneCell' = true := fun v hv => by
  unfold ndL at hv
  obtain ⟨_, _, rfl⟩ := List.mem_map.1 hv
  rfl
set_option maxRecDepth 100000 in
set_option maxHeartbeats 4000000 in
theorem cloneN_any (d : Nat → Nat) (L : List Nat) (r g cap : Nat) (w : World) (hl : L.length = r) (hr : 1 ≤ r) (hr9 : r ≤ 9) (hc : CellsAt w (some ⟨g, 0, none⟩) (ndL d L)) :
    Calls Try.prog 41 #[.slice (some ⟨g, 0, none⟩) r cap] w
      fun e w' => ∃ g2 c2 X, e = .returned (.slice (some ⟨g2, 0, none⟩) r c2) ∧ w.heap.size ≤ g2 ∧ r ≤ c2 ∧ HeldB w' g2 66 (ndX d X L) ∧ Below w.heap.size w w' := by
  obtain ⟨i, hi, hz, h1, h2⟩ := info_parts Try.infoNd
  have hb0 := below_alloc w (.cells #[] 66)
  have hr0 : (w.alloc (.cells #[] 66)).ownsRow w.heap.size 66 2 (.slice (some ⟨w.heap.size, 0, none⟩) 0 0) 0 [] := World.ownsRow_made w #[] 0 (Nat.le_refl _) (Nat.zero_le _) rfl
  have HCL := Lib.hid (fun j v (hv : (ndL d L)[j]? = some v) => show (w.alloc (.cells #[] 66)).cell? ((⟨g, 0, none⟩ : Addr).add j) = some v by
    obtain ⟨b, off, e, hcc⟩ := (hc.below hb0) j v hv
    cases e
    rw [Addr.add_mid]; exact hcc)
  have HON := Lib.hid (ndL_one d L)
  have HLL := Lib.hid (show (ndL d L).length = r * 2 by rw [ndL_len, hl]; omega)
  have hnil : ∀ W, (binOp .eql 47 (.slice (some ⟨g, 0, none⟩) r cap) (.slice none 0 0)).run Try.prog W = .ok (.bool false) W := fun W => Lib.run_eql_slice_some_nil W _ _ _ Try.underlying47
  clear hl hc
  go_enter Try.func41, Try.ntmps41
  go_wp2_with (at_builtin; go_loud (refine Go.wpList_append_own_at _ rfl _ _ 47 rfl w.heap.size 66 i (.agg #[.int .i64 0, .int .i64 0]) 2 16 Try.underlying47 hi hz h1 h2 rfl (by decide) (.slice (some ⟨w.heap.size, 0, none⟩) 0 0) 0 [] rfl hr0 ⟨g, 0, none⟩ r cap (ndL d L) rfl HLL.out HCL.out HON.out (by unfold maxLen; omega) (by omega) (by simp) ?_; intro v2 w2 hown hg hnil _))
  rw [List.nil_append, Nat.zero_add] at hown
  obtain ⟨ao, c2, rfl⟩ : ∃ ao c2, v2 = .slice ao r c2 := by
    rcases hown.2 with ⟨hv, h0⟩ | ⟨g', cap', cur, hv, _⟩
    · omega
    · exact ⟨_, _, hv⟩
  obtain ⟨g2, X, rfl, hg2, hn2, hH⟩ := owns_ndX hown hr
  have hb2 : Below w.heap.size w w2 := hb0.trans (below_of_grownBy hg (by simp) (fun k hk => by simp [Value.ownBlock] at hk; omega))
  go_wp2
  go_ret
  exact ⟨g2, c2, X, rfl, hg2, hn2, hH, hb2⟩

def AsSt (w : World) (D : Array Value) (gs gl : Nat) (d : Nat → Nat) (X : Array Value) (L S : List Nat) (wr : World) : Prop :=
  HeldB wr w.heap.size 49 D ∧ HeldB wr gs 3 (setsV S) ∧ HeldB wr gl 66 (ndX d X L) ∧ Below w.heap.size w wr
theorem AsSt.below {w : World} {D : Array Value} {gs gl : Nat} {d : Nat → Nat} {X : Array Value} {L S : List Nat} {wr w1 : World} (h : AsSt w D gs gl d X L S wr) (hb : Below wr.heap.size wr w1) : AsSt w D gs gl d X L S w1 :=
  ⟨h.1.below hb, h.2.1.below hb, h.2.2.1.below hb, below_step h.2.2.2 h.2.2.2.size hb⟩
theorem AsSt.put {w : World} {D : Array Value} {gs gl : Nat} {d : Nat → Nat} {X : Array Value} {L S T : List Nat} {wr : World} (h : AsSt w D gs gl d X L S wr) (hgs : w.heap.size < gs) (hne : gl ≠ gs) (x m : Nat) (hT : S.set x m = T) : AsSt w D gs gl d X L T (wr.setCell ⟨gs, x, none⟩ (.int .i64 (m : Nat))) := by
  refine ⟨h.1.other (by simp; omega) _, ?_, h.2.2.1.other (by simpa using hne) _, h.2.2.2.setCell (by simp; omega) _⟩
  rw [← hT, ← setsV_put]
  exact h.2.1.set x _
theorem max_sum (y x e : Nat) : (if (y : Int) < (x : Int) + (e : Int) then (x : Int) + (e : Int) else (y : Int)) = ((max y (x + e) : Nat) : Int) := by split <;> omega

set_option maxRecDepth 100000 in
set_option maxHeartbeats 8000000 in
theorem aheadF_any (h wd r : Nat) (gg : Nat → Nat → Nat) (F : Nat → Nat → Nat → Bool) (way : Nat) (hw : way < 2) (d : Nat → Nat) (gn cn : Nat) (w : World) (hr : r ≤ 9) (hr1 : 1 ≤ r) (G : Goes (F way) (firstQ F) r) (hd : ∀ a, a < r → d a ≤ 9)
    (hN : CellsAt w (some ⟨gn, 0, none⟩) (ndL d (List.range r))) :
    Calls Try.prog 31 #[.agg (dwC (ordC (planC h wd r gg) F) (way : Int) (.slice (some ⟨gn, 0, none⟩) r cn)), .func (.func 32) #[.agg (dwC (ordC (planC h wd r gg) F) (way : Int) (.slice (some ⟨gn, 0, none⟩) r cn))] #[]] w
      fun e w' => PlRet w.heap.size (sumL (F way) d r) e w' ∧ Below w.heap.size w w' := by
  have hC := planC_size h wd r gg
  have hO := ordC_size hC F
  have HSO := Lib.hid (fun (X : Array Value) (g cap : Nat) (w : World) hB => sortF_any hC F (way : Int) (.slice (some ⟨gn, 0, none⟩) r cn) d X r g cap (List.range r) w hr G.lin hB (Ins.start _ _))
  have HCN := Lib.hid (fun (w : World) hc => cloneN_any d (List.range r) r gn cn w (by simp) hr1 hr hc)
  have HAP := Lib.hid (fun a b (w : World) (ha : a < 9) (hb : b < 9) => isApart_any hC F way hw (.slice (some ⟨gn, 0, none⟩) r cn) a b w ha hb)
  have hB := HeldB.new w 49 (dwC (ordC (planC h wd r gg) F) (way : Int) (.slice (some ⟨gn, 0, none⟩) r cn))
  have HK2 := Lib.hid ((dwC_lo (k := 2) (by rw [hO]; omega) (way : Int) (.slice (some ⟨gn, 0, none⟩) r cn)).trans (show (ordC (planC h wd r gg) F)[2]? = some (.int .i64 (r : Nat)) by rw [ordC_lo F (by rw [planC_size]; omega), planC_2]))
  have HKN := Lib.hid (dwC_needs hO (way : Int) (.slice (some ⟨gn, 0, none⟩) r cn))
  have HSZ := Lib.hid (dw_info hO (way : Int) (.slice (some ⟨gn, 0, none⟩) r cn))
  have HG := Lib.hid G
  have HF := Lib.hid (fun b (hb : b < r) => G.sum_few hd hb hr)
  have HIR := Lib.hid (fun a b (hq : firstQ F a b = true) (ha : a < r) (hb : b < r) => show (F way a b || F way b a) = F way a b by
    cases hba : F way b a
    · rw [Bool.or_false]
    · have h2 := (G.imp _ _ hba).2.2
      have := G.lin.trans _ _ _ ha hb ha hq h2
      rw [G.lin.irr a ha] at this; cases this)
  have HD9 := Lib.hid hd
  have hb0 := below_alloc w (.cells (dwC (ordC (planC h wd r gg) F) (way : Int) (.slice (some ⟨gn, 0, none⟩) r cn)) 49)
  have c2 := (hB.cell 2).trans HK2.out
  have HB := Lib.hid hB; have HB0 := Lib.hid hb0; have HN := Lib.hid hN
  clear hC hO G hd hB hb0 hN
  generalize firstQ F = q at *
  generalize hff : F way = f at *
  generalize dwC (ordC (planC h wd r gg) F) (way : Int) (.slice (some ⟨gn, 0, none⟩) r cn) = D at *
  clear hff
  obtain ⟨im, hmi, hmz, hm1, hm2⟩ := info_parts Try.infoNum
  go_enter Try.func31, Try.ntmps31
  go_wp2_with (at_make; refine wpList_make_full _ rfl _ _ 23 rfl (w.heap.size + 1) 3 im (.int .i64 0) 1 Try.underlying23 hmi hmz hm1 .i64 .i64 _ _ r rfl rfl rfl rfl ?d2 ?d3 (by simp) ?_; rotate_left 2; intro w2 ho2 hg2; have bD2 := HB.out.kept hg2 (by simp); have kN2 := (bD2.cell 202).trans HKN.out)
  case d2 => rw [hm2]; omega
  case d3 => unfold maxLen; omega
  have hb2 : Below w.heap.size w w2 := HB0.out.trans ((below_of_grownBy hg2 (Nat.le_refl _) (by simp)).mono (by simp))
  have hz2 := held_zeros ho2
  simp only [World.size_alloc] at hz2
  have hlz := hz2.lt
  have hs2 : w.heap.size + 1 < w2.heap.size := hlz
  clear ho2 hg2 c2 kN2
  refine (HCN.out _ (HN.out.below hb2)).mono ?_
  rintro e w3 ⟨gl, cl, X, rfl, hgl, hcl, hX3, hb3⟩
  have bD3 := bD2.below hb3
  have hz3 := hz2.below hb3
  have hB3 := below_step hb2 hb2.size hb3
  clear bD2 hz2 hb2 HCN hb3
  go_wp2_with fail
  refine (HSO.out X gl cl _ hX3).mono ?_
  rintro e w4 ⟨rfl, L, hL, hX4, hg4⟩
  have st4 : AsSt w D (w.heap.size + 1) gl d X L (List.replicate r 0) w4 := ⟨bD3.kept hg4 (by simp only [ne_eq, Option.some.injEq]; omega), hz3.kept hg4 (by simp only [ne_eq, Option.some.injEq]; omega), hX4, hB3.trans (below_of_grownBy hg4 hB3.size (fun k hk => by cases hk; omega))⟩
  clear bD3 hz3 hB3 hX3 hX4 hg4 HSO HB HB0 HN
  have as4 : AhS f d r L 0 0 (List.replicate r 0) := AhS.start hL
  have HL := Lib.hid hL; clear hL
  have hgl2 : w.heap.size + 1 < gl := by omega
  go_wp2
  go_loopw [24] (fun vk wr => ∃ (k : Nat) (S : List Nat), k ≤ r ∧ vk = .int .i64 (k : Int) ∧ AsSt w D (w.heap.size + 1) gl d X L S wr ∧ AhS f d r L k 0 S) (fun vk _ => r - (intOf vk).toNat)
  case atStart => exact ⟨0, _, Nat.zero_le _, rfl, st4, as4⟩
  case round =>
    clear st4 as4
    obtain ⟨k, S, hk, rfl, hst, hah⟩ := hrel
    by_cases hkr : k < r
    · have hrg := nd_range hst.2.2.1 (i := k) (by rw [HL.out.len]; exact hkr)
      have hkc : (k : Int) ≤ (cl : Int) := by omega
      have hkrI : (k : Int) < (r : Int) := by omega
      have hbr := HL.out.lt k hkr
      have HAH := Lib.hid hah
      clear hah
      generalize hbb : L.getD k 0 = b at *
      have HBB := Lib.hid hbb; clear hbb
      have HGB := Lib.hid (show w.heap.size + 1 < wr.heap.size from hst.2.1.lt)
      have hst5 := hst.below (below_alloc wr (.cells (nd1 d b) 66))
      have bb5 := HeldB.new wr 66 (nd1 d b)
      clear hst
      go_wp2_with (refine wpList_load_mid rfl 66 _ rfl gl (k * 2) rfl (nd1 d b).toList _ hrg Try.underlying66 rfl Try.sizeNd ?_; simp only [nd1])
      unfold nd1 at hst5 bb5
      have hgb : w.heap.size + 1 < wr.heap.size := HGB.out
      generalize hW5 : wr.alloc (.cells #[.int .i64 ((b : Nat) : Int), .int .i64 ((d b : Nat) : Int)] 66) = W5 at *
      generalize wr.heap.size = gb at *
      clear hW5 hrg
      go_loopw [33] (fun vi wr => ∃ (i : Nat) (S : List Nat), i ≤ k ∧ vi = .int .i64 (i : Int) ∧ AsSt w D (w.heap.size + 1) gl d X L S wr ∧ HeldB wr gb 66 #[.int .i64 ((b : Nat) : Int), .int .i64 ((d b : Nat) : Int)] ∧ AhS f d r L k i S) (fun vi _ => k - (intOf vi).toNat)
      case atStart => exact ⟨0, S, Nat.zero_le _, rfl, hst5, bb5, HAH.out⟩
      case round =>
        clear hst5 bb5 HAH
        obtain ⟨i, S, hi, rfl, hst, hbx, hah⟩ := hrel
        by_cases hik : i < k
        · have hir : i < r := by omega
          have hrg := nd_range hst.2.2.1 (i := i) (by rw [HL.out.len]; exact hir)
          have har := HL.out.lt i hir
          have hqq := HL.out.ord i k hik hkr
          have hsa := Nat.le_trans (hah.few HG.out HL.out hkr (by omega) _ har) (HF.out _ har)
          have hsb := Nat.le_trans (hah.few HG.out HL.out hkr (by omega) b hbr) (HF.out b hbr)
          have hda := HD9.out _ har
          have hskip := fun h => hah.skip (i := i) h
          have hstep := fun h => hah.step HG.out.lin HL.out hkr hik h
          have hsl := hah.len
          rw [HBB.out] at hskip hstep hqq
          clear hah
          generalize L.getD i 0 = a at *
          have HSK := Lib.hid hskip; have HSP := Lib.hid hstep
          clear hskip hstep
          have HAX := Lib.hid (fun (w : World) => by have := HAP.out a b w (by omega) (by omega); rwa [HIR.out a b hqq har hbr] at this)
          have hst2 := hst.below (below_alloc wr (.cells (nd1 d a) 66))
          have bx2 := hbx.alloc (.cells (nd1 d a) 66)
          have ba2 := HeldB.new wr 66 (nd1 d a)
          unfold nd1 at hst2 bx2 ba2
          have cb0 := bx2.cell 0
          have ca0 := ba2.cell 0
          rw [show (#[.int .i64 ((b : Nat) : Int), .int .i64 ((d b : Nat) : Int)] : Array Value)[0]? = some (.int .i64 ((b : Nat) : Int)) from rfl] at cb0
          rw [show (#[.int .i64 ((a : Nat) : Int), .int .i64 ((d a : Nat) : Int)] : Array Value)[0]? = some (.int .i64 ((a : Nat) : Int)) from rfl] at ca0
          have hD2 : (wr.alloc (.cells #[.int .i64 ((a : Nat) : Int), .int .i64 ((d a : Nat) : Int)] 66)).heap[w.heap.size]? = some (.cells D 49 (0, 0)) := hst2.1
          have hikI : (i : Int) < (k : Int) := by omega
          have hirI : (i : Int) < (r : Int) := by omega
          have harI : (a : Int) < (r : Int) := by omega
          have hbrI : (b : Int) < (r : Int) := by omega
          have hga : w.heap.size + 1 < wr.heap.size := hst.2.1.lt
          cases hfab : f a b
          · rw [hfab] at HAX
            have hSK := Lib.hid (HSK.out hfab)
            clear hst hbx HSK HSP hfab hsa hsb
            go_wp2_with (first
              | (refine wpList_load_mid rfl 66 _ rfl gl (i * 2) rfl (nd1 d a).toList _ hrg Try.underlying66 rfl Try.sizeNd ?_; simp only [nd1])
              | (refine wpList_load_row rfl 49 _ rfl w.heap.size rfl 49 D (0, 0) _ hD2 Try.underlying49 rfl HSZ.out ?_)
              | (go_at_call 43; refine (HAX.out _).mono ?_; rintro e w7 ⟨rfl, hb7⟩))
            go_roundw
            case rel => exact ⟨i + 1, S, by omega, by go_num, hst2.below hb7, bx2.below hb7, hSK.out⟩
            case measure => simp [intOf]; omega
          · rw [hfab] at HAX
            have hSP := Lib.hid (HSP.out hfab)
            clear hst hbx HSK HSP hfab
            go_wp2_with (first
              | (refine wpList_load_mid rfl 66 _ rfl gl (i * 2) rfl (nd1 d a).toList _ hrg Try.underlying66 rfl Try.sizeNd ?_; simp only [nd1])
              | (refine wpList_load_row rfl 49 _ rfl w.heap.size rfl 49 D (0, 0) _ hD2 Try.underlying49 rfl HSZ.out ?_)
              | (go_at_call 43; refine (HAX.out _).mono ?_; rintro e w7 ⟨rfl, hb7⟩))
            have st7 := hst2.below hb7
            have bx7 := bx2.below hb7
            have ba7 := ba2.below hb7
            generalize wr.heap.size = ga at *
            clear hst2 bx2 ba2 cb0 ca0 hD2 hb7 hrg
            have cb0 := bx7.cell 0
            have ca0 := ba7.cell 0
            have ca1 := ba7.cell 1
            rw [show (#[.int .i64 ((b : Nat) : Int), .int .i64 ((d b : Nat) : Int)] : Array Value)[0]? = some (.int .i64 ((b : Nat) : Int)) from rfl] at cb0
            rw [show (#[.int .i64 ((a : Nat) : Int), .int .i64 ((d a : Nat) : Int)] : Array Value)[0]? = some (.int .i64 ((a : Nat) : Int)) from rfl] at ca0
            rw [show (#[.int .i64 ((a : Nat) : Int), .int .i64 ((d a : Nat) : Int)] : Array Value)[1]? = some (.int .i64 ((d a : Nat) : Int)) from rfl] at ca1
            have kb := (st7.2.1.cell b).trans (setsV_at (by rw [hsl]; exact hbr))
            have ka := (st7.2.1.cell a).trans (setsV_at (by rw [hsl]; exact har))
            have fb := st7.2.1.frozen b
            obtain ⟨mm, hmm⟩ : ∃ mm, mm = max (S.getD b 0) (S.getD a 0 + d a) := ⟨_, rfl⟩
            have hs8 := st7.put (by omega) (by omega) b mm rfl
            have bx8 := bx7.other (a := ⟨w.heap.size + 1, b, none⟩) (by simp; omega) (.int .i64 (mm : Nat))
            rw [← hmm] at hSP
            obtain ⟨y, hy⟩ : ∃ y, y = S.getD b 0 := ⟨_, rfl⟩
            obtain ⟨x, hx⟩ : ∃ x, x = S.getD a 0 := ⟨_, rfl⟩
            rw [← hy] at kb hmm hsb
            rw [← hx] at ka hmm hsa
            have HMX := Lib.hid (show (if (y : Int) < (x : Int) + (d a : Int) then (x : Int) + (d a : Int) else (y : Int)) = (mm : Int) by rw [max_sum, hmm])
            have hs8 := Lib.hid hs8; have bx8 := Lib.hid bx8
            clear hy hx hmm st7 bx7 ba7
            generalize d a = e at *
            go_wp2
            go_region
            rw [HMX.out]
            go_wp2
            go_roundw
            case rel => exact ⟨i + 1, _, by omega, by go_num, hs8.out.below (below_drewN _ _ 1), bx8.out.drew, hSP.out⟩
            case measure => simp [intOf]; omega
        · obtain rfl : i = k := by omega
          have hn := hah.next HG.out HL.out hkr
          clear hah
          go_wp2
          go_roundw
          case rel => exact ⟨i + 1, S, by omega, by go_num, hst, hn⟩
          case measure => simp [intOf]; omega
    · obtain rfl : k = r := by omega
      have hd := hah.done HL.out
      subst hd
      go_wp2
      go_ret
      refine ⟨⟨w.heap.size + 1, by omega, ?_, hst.2.1⟩, hst.2.2.2⟩
      rw [sumL_len]; rfl

end Go.Proofs.Ytmbpffpkmjechaa
