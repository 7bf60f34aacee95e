
/-
  The permutations that are drawn. (Walks.)
-/
import Derived.Test.YtnkfopnkgingpaaPick
import Derived.Maps.AppendAt
import Derived.WideShapes
import Derived.OrdersHeld
namespace Go.Proofs.Ytnkfopnkgingpaa
open Go.WideShapes Go.RowKit

theorem d_info : (Try.prog.info? 3).map (fun i => (i.zero, i.size, i.bytes)) = some (some (.int .i64 0), 1, 8) := by kernel_rfl
theorem d_go {P : Program} {ops : Array Oper} {Q : Exit → Act → World → Prop} {i : Nat} {o : Oper} {K : Act → World → Prop} {a : Act} {w : World} (hi : ops[i]? = some o) (hw : Region.wanted o (yielded ops a.tmps) = true) (h : o.wp P a w K Q) : wpOp P ops Q i K a w := by
  unfold wpOp
  simp only [hi, hw, if_true]
  exact .inl h
theorem d_one (l : List Int) : ∀ v ∈ l.map (Value.int .i64), v.oneCell' = true := fun v hv => by
  obtain ⟨_, _, rfl⟩ := List.mem_map.1 hv
  rfl
/-- numbers are put behind numbers of the call's own: a single operation -/
theorem wp_pushS {w : World} {o : Oper} {a : Act} {K : Act → World → Prop} {Q : Exit → Act → World → Prop} (s x : Operand)
    (ho : o.op = .call { callee := .builtin .append, args := #[s, x], argTypes := #[23, 23] })
    (base g0 n cap : Nat) (xs : List Int) (hs : a.eval s = .slice (some ⟨g0, 0, none⟩) n cap) (hown : w.ownsRow base 3 1 (.slice (some ⟨g0, 0, none⟩) n cap) n (xs.map (Value.int .i64)))
    (us : List Int) (m N : Nat) (hN : n + m = N) (ad : Addr) (c : Nat) (hx : a.eval x = .slice (some ad) m c) (hl : us.length = m) (hu : ∀ j v, (us.map (Value.int .i64))[j]? = some v → w.cell? (ad.add j) = some v) (h63 : N ≤ 100) (hbase : base ≤ w.heap.size)
    (h : ∀ g' cap' w', w'.ownsRow base 3 1 (.slice (some ⟨g', 0, none⟩) N cap') N ((xs ++ us).map (Value.int .i64)) → w.grownBy w' (some g0) → (g' = g0 ∨ w.heap.size ≤ g') → K (a.put o.dst (.slice (some ⟨g', 0, none⟩) N cap')) w') : o.wp Try.prog a w K Q := by
  obtain ⟨i, hi, hz, h1, h2⟩ := info_parts d_info
  subst hN
  obtain ⟨v', w', hr, r2, r3, r4, r5⟩ := run_append_own_at (P := Try.prog) w base 23 o.type 3 i (.int .i64 0) 1 8 Try.underlying23 hi hz h1 h2 rfl (by decide) (.slice (some ⟨g0, 0, none⟩) n cap) n (xs.map (Value.int .i64)) hown ad m c (us.map (Value.int .i64)) (by simp; omega) hu (d_one us) (by unfold maxLen; omega) (by omega) hbase
  have hsome : ∃ g' cap', v' = .slice (some ⟨g', 0, none⟩) (n + m) cap' := by
    rcases r2.2 with ⟨hv, _⟩ | ⟨g, cap2, cur, hv, _⟩
    · have := (r4.1 hv).1
      cases this
    · exact ⟨g, cap2, hv⟩
  obtain ⟨g', cap', rfl⟩ := hsome
  rw [← List.map_append] at r2
  unfold Oper.wp execOp
  simp only [ho, resolve, invoke, builtin, Sem.run_bind, Sem.run_pure, Result.andThen_ok, List.map_toArray, List.map_cons, List.map_nil, hs, hx, hr]
  refine h g' cap' w' r2 r3 ?_
  rcases r5 with e | e
  · left; simpa [Value.ownBlock] using e
  · right
    have : g' = w.heap.size := by simpa [Value.ownBlock] using e
    omega

theorem d_cap {w : World} {base g n c : Nat} {xs : List Value} (h : w.ownsRow base 3 1 (.slice (some ⟨g, 0, none⟩) n c) n xs) : n ≤ c ∧ c ≤ maxLen := by
  rcases h.2 with ⟨hv, _⟩ | ⟨g', cap, cur, hv, _, _, h1, h2, _⟩
  · cases hv
  · simp only [Value.slice.injEq] at hv
    obtain ⟨_, _, rfl⟩ := hv
    exact ⟨h1, h2⟩
/-- what a slice from a place on is -/
theorem d_tail {i g k rc : Nat} (hk : k ≤ i) (hi : i ≤ rc) : ∃ X : Addr, (∀ w, (Instr.sliceAt 23 (.slice (some ⟨g, 0, none⟩) i rc) (some (.int .i64 (k : Int))) none none).run Try.prog w = .ok (.slice (some X) (i - k) (rc - k)) w) ∧ ∀ (w : World) (l : List Int), l.length = i → CellsAt w (some ⟨g, 0, none⟩) (l.map (Value.int .i64)) → ∀ j v, ((l.drop k).map (Value.int .i64))[j]? = some v → w.cell? (X.add j) = some v := by
  by_cases hc : rc = k
  · refine ⟨⟨g, 0, none⟩, fun w => ?_, fun w l hl h j v hj => ?_⟩
    · obtain rfl : i = k := by omega
      subst hc
      go_simp
    · rw [List.drop_of_length_le (by omega)] at hj
      cases hj
  · refine ⟨⟨g, k, none⟩, fun w => ?_, fun w l hl h j v hj => ?_⟩
    · have h1 : (k : Int) ≤ (i : Int) := by omega
      have h2 : (k : Int) ≤ (rc : Int) := by omega
      have h3 : ¬ rc = k := hc
      go_simp
    · rw [List.map_drop, List.getElem?_drop] at hj
      obtain ⟨b, off, e, hcc⟩ := h _ _ hj
      cases e
      rw [add_plain]
      rw [Nat.zero_add] at hcc
      exact hcc
theorem d_elem {W : World} {U : Nat} {x : Int} (h : HeldB W U 3 #[.int .i64 x]) : ∀ j v, (([x] : List Int).map (Value.int .i64))[j]? = some v → W.cell? ((⟨U, 0, none⟩ : Addr).add j) = some v := fun j v hj => by
  cases j with
  | zero => rw [add_plain]; exact (h.cell 0).trans hj
  | succ j => simp at hj
theorem d_take {W : World} {g k : Nat} {l : List Int} (h : CellsAt W (some ⟨g, 0, none⟩) (l.map (Value.int .i64))) : ∀ j v, ((l.take k).map (Value.int .i64))[j]? = some v → W.cell? ((⟨g, 0, none⟩ : Addr).add j) = some v := fun j v hj => by
  rw [List.map_take, List.getElem?_take] at hj
  split at hj
  · obtain ⟨b, off, e, hc⟩ := h j v hj
    cases e
    rw [add_plain]; exact hc
  · cases hj
theorem d_grown {w w1 w2 : World} {B : Nat} (h : w.grownBy w1 (some B)) (hb : Below w1.heap.size w1 w2) : w.grownBy w2 (some B) := grownBy_trans h (grownBy_of_below hb _)
set_option maxRecDepth 100000 in
set_option maxHeartbeats 8000000 in
theorem l92Perm_c (aR : Option Addr) (kR : Nat) (cR : List UInt8) (N B most : Nat) (w : World) (hN : N ≤ 1000) (hm : 1 ≤ most) (hm8 : most ≤ 8) (hcode : cR.length = 0 ∨ ∀ a, aR = some a → a.block < w.heap.size) (h : RdC aR kR cR N B w) :
    Calls Try.prog 49 #[.pointer (some ⟨B, 0, none⟩), .int .i64 (most : Int)] w fun e w' => ∃ (g rc : Nat) (l : List Int), 1 ≤ l.length ∧ l.length ≤ 8 ∧ e = .returned (.slice (some ⟨g, 0, none⟩) l.length rc) ∧ w'.ownsRow w.heap.size 3 1 (.slice (some ⟨g, 0, none⟩) l.length rc) l.length (l.map (Value.int .i64)) ∧ w.grownBy w' (some B) ∧ RdC aR kR cR (N + 10) B w' := by
  have hBl := h.lt
  have HCD := Lib.hid hcode; clear hcode
  have hb0 := below_alloc w (.cells #[] 3)
  have hr0 : (w.alloc (.cells #[] 3)).ownsRow w.heap.size 3 1 (.slice (some ⟨w.heap.size, 0, none⟩) 0 0) 0 (([] : List Int).map (Value.int .i64)) := World.ownsRow_made w #[] 0 (Nat.le_refl _) (Nat.zero_le _) rfl
  have h0 := h.below hb0
  go_enter Try.func49, Try.ntmps49
  go_wp2_with fail
  refine (pick_c aR kR cR N B (most : Int) _ (by omega) h0).mono ?_
  rintro e w1 ⟨v0, rfl, hv0, hd1, hg1⟩
  have hr1 := hr0.kept hg1 (.inr (by simp only [Value.ownBlock, ne_eq, Option.some.injEq]; omega))
  have hG1 : w.grownBy w1 (some B) := grownBy_trans (grownBy_of_below hb0 _) hg1
  clear hr0 hb0 h0 h hg1
  obtain ⟨n, hn⟩ : ∃ n, 1 + v0 = n := ⟨_, rfl⟩
  have hn8 : n ≤ 8 := by omega
  have hn1 : 1 ≤ n := by omega
  have hne : (1 : Int) + (v0 : Int) = (n : Int) := by omega
  have hv08 : v0 < 8 := by omega
  go_wp2
  clear hne
  go_loopw [5, 7] (fun vo vi wr => ∃ (i g rc : Nat) (l : List Int), i ≤ n ∧ vi = .int .i64 i ∧ vo = .slice (some ⟨g, 0, none⟩) i rc ∧ l.length = i ∧ wr.ownsRow w.heap.size 3 1 (.slice (some ⟨g, 0, none⟩) i rc) i (l.map (Value.int .i64)) ∧ RdC aR kR cR (N + 1 + i) B wr ∧ w.grownBy wr (some B)) (fun _ vi _ => n - (intOf vi).toNat)
  case atStart => exact ⟨0, _, _, [], Nat.zero_le _, rfl, rfl, rfl, hr1, hd1, hG1⟩
  case round =>
    clear hr1 hd1 hG1
    obtain ⟨i, g, rc, l, hi, rfl, rfl, hl, hrow, hd, hG⟩ := hrel
    have HL := Lib.hid hl; clear hl
    by_cases hlt : i < n
    · go_wp2_with fail
      refine (pick_c aR kR cR (N + 1 + i) B ((i : Int) + 1) _ (by omega) hd).mono ?_
      rintro e w2 ⟨k, rfl, hk, hd2, hg2⟩
      have hgl := owns_lt hrow _ rfl
      have hrow2 := hrow.kept hg2 (.inr (by simp only [Value.ownBlock, ne_eq, Option.some.injEq]; have := hgl.1; simp at this; omega))
      have hG2 := grownBy_trans hG hg2
      clear hd hg2 hrow hG
      have hki : k ≤ i := by omega
      clear hk
      obtain ⟨hirc, hrcm⟩ := d_cap hrow2
      have HSL := Lib.hid (d_tail (i := i) (g := g) hki hirc)
      go_wp2
      obtain ⟨X, hsl, hcl⟩ := HSL.out
      have HX := Lib.hid hsl; clear hsl
      have hc2 := owns_cells hrow2
      have HTK := Lib.hid (fun (W : World) (hb : Below w2.heap.size w2 W) => d_take (k := k) (hc2.below hb))
      have HDK := Lib.hid (fun (W : World) (hb : Below w2.heap.size w2 W) => hcl W l HL.out (hc2.below hb))
      have HTL := Lib.hid (show (l.take k).length = k by rw [List.length_take, HL.out]; omega)
      have HDL := Lib.hid (show (l.drop k).length = i - k by rw [List.length_drop, HL.out])
      have hws : w.heap.size ≤ w2.heap.size := hG2.size
      clear hcl hc2 hrow2
      have hkrI : (k : Int) ≤ (rc : Int) := by omega
      refine wp_region_held (S := fun W => Below w2.heap.size w2 W) (by kernel_rfl) ?_
      have s0 : Below w2.heap.size w2 ({ w2 with drawn := w2.drawn + 1 } : World) := below_drewN _ w2 1
      generalize ({ w2 with drawn := w2.drawn + 1 } : World) = W0 at *
      change Go.wpAnyH Try.prog Region.Mode.any _ _ _ 13 (Array.replicate 13 false) _ _
      refine wpAnyH_take (i := 1) (v := .slice (some ⟨g, 0, none⟩) i rc) rfl (by kernel_rfl) (by kernel_rfl) (by kernel_rfl) (fun _ _ _ h => h) (Yields.yieldsIf (Or.inl ⟨by rfl, fun w => by go_simp⟩)) s0 ?_
      refine wpAnyH_take (i := 2) (v := .int .i64 (k : Int)) rfl (by kernel_rfl) (by kernel_rfl) (by kernel_rfl) (fun _ _ _ h => h) (Yields.yieldsIf (Or.inl ⟨by rfl, fun w => by go_simp⟩)) s0 ?_
      refine wpAnyH_take (i := 3) (v := .slice (some ⟨g, 0, none⟩) k rc) rfl (by kernel_rfl) (by kernel_rfl) (by kernel_rfl) (fun _ _ _ h => h) (Yields.yieldsIf (Or.inl ⟨by rfl, fun w => by go_simp⟩)) s0 ?_
      refine wpAnyH_take (i := 5) (v := .int .i64 (i : Int)) rfl (by kernel_rfl) (by kernel_rfl) (by kernel_rfl) (fun _ _ _ h => h) (Yields.yieldsIf (Or.inl ⟨by rfl, fun w => by go_simp⟩)) s0 ?_
      refine wpAnyH_take (i := 8) (v := .slice (some ⟨g, 0, none⟩) i rc) rfl (by kernel_rfl) (by kernel_rfl) (by kernel_rfl) (fun _ _ _ h => h) (Yields.yieldsIf (Or.inl ⟨by rfl, fun w => by go_simp⟩)) s0 ?_
      refine wpAnyH_take (i := 9) (v := .int .i64 (k : Int)) rfl (by kernel_rfl) (by kernel_rfl) (by kernel_rfl) (fun _ _ _ h => h) (Yields.yieldsIf (Or.inl ⟨by rfl, fun w => by go_simp⟩)) s0 ?_
      refine wpAnyH_take (i := 10) (v := .slice (some X) (i - k) (rc - k)) rfl (by kernel_rfl) (by kernel_rfl) (by kernel_rfl) (fun _ _ _ h => h) (Yields.yieldsIf (Or.inl ⟨by rfl, fun w => by have hslw := HX.out w; go_simp⟩)) s0 ?_
      simp only [List.getElem_toArray, List.getElem_cons_succ, List.getElem_cons_zero, Act.put, List.setIfInBounds_toArray, List.set_cons_succ, List.set_cons_zero]
      refine wpAnyH_all (rs := [0, 6]) (by kernel_rfl) (by decide) ?_
      intro q hq
      simp only [List.mem_cons, List.not_mem_nil, or_false] at hq
      rcases hq with rfl | rfl
      · skip
        refine d_go rfl (by rfl) ?_
        unfold Oper.wp
        go_simp
        have s1 := s0.alloc s0.size (.cells #[] 3)
        have rA : (W0.alloc (.cells #[] 3)).ownsRow w2.heap.size 3 1 (.slice (some ⟨W0.heap.size, 0, none⟩) 0 0) 0 (([] : List Int).map (Value.int .i64)) := ownsRow_base (World.ownsRow_made W0 #[] 0 (Nat.le_refl _) (Nat.zero_le _) rfl) s0.size
        generalize W0.heap.size = gA at *
        generalize hz1 : W0.alloc (.cells #[] 3) = W1 at *
        clear hz1
        refine ⟨s1, ?_⟩
        refine wpAnyH_all (rs := [4, 6]) (by kernel_rfl) (by decide) ?_
        intro q hq
        simp only [List.mem_cons, List.not_mem_nil, or_false] at hq
        rcases hq with rfl | rfl
        · skip
          refine d_go rfl (by rfl) ?_
          refine wp_pushS _ _ rfl w2.heap.size gA 0 0 [] (by rfl) rA (l.take k) k k (Nat.zero_add _) ⟨g, 0, none⟩ rc (by rfl) HTL.out (HTK.out _ s1) (by omega) s1.size ?_
          intro gB cB W2 rB hgr _
          have s2 := s1.trans (below_of_grownBy hgr s1.size (fun j hj => by cases hj; exact (owns_lt rA _ rfl).1))
          clear rA hgr
          refine ⟨s2, ?_⟩
          simp only [List.getElem_toArray, List.getElem_cons_succ, List.getElem_cons_zero, Act.put, List.setIfInBounds_toArray, List.set_cons_succ, List.set_cons_zero]
          refine wpAnyH_all (rs := [6]) (by kernel_rfl) (by decide) ?_
          intro q hq
          simp only [List.mem_cons, List.not_mem_nil, or_false] at hq
          subst hq
          refine d_go rfl (by rfl) ?_
          unfold Oper.wp
          go_simp
          have s3 := s2.alloc s2.size (.cells #[.int .i64 (i : Int)] 3)
          have hU := HeldB.new W2 3 #[.int .i64 (i : Int)]
          have rB3 := rB.alloc (.cells #[.int .i64 (i : Int)] 3)
          clear rB
          have rB := rB3
          generalize W2.heap.size = U at *
          generalize hz3 : W2.alloc (.cells #[.int .i64 (i : Int)] 3) = W3 at *
          clear hz3
          refine ⟨s3, ?_⟩
          refine wpAnyH_all (rs := [7]) (by kernel_rfl) (by decide) ?_
          intro q hq
          simp only [List.mem_cons, List.not_mem_nil, or_false] at hq
          subst hq
          refine d_go rfl (by rfl) ?_
          refine wp_pushS _ _ rfl w2.heap.size gB k cB _ (by rfl) rB [(i : Int)] 1 (k + 1) rfl ⟨U, 0, none⟩ 1 (by rfl) rfl (d_elem hU) (by omega) s3.size ?_
          intro gC cC W4 rC hgr _
          have s4 := s3.trans (below_of_grownBy hgr s3.size (fun j hj => by cases hj; exact (owns_lt rB _ rfl).1))
          clear rB hU hgr
          refine ⟨s4, ?_⟩
          simp only [List.getElem_toArray, List.getElem_cons_succ, List.getElem_cons_zero, Act.put, List.setIfInBounds_toArray, List.set_cons_succ, List.set_cons_zero]
          refine wpAnyH_all (rs := [11]) (by kernel_rfl) (by decide) ?_
          intro q hq
          simp only [List.mem_cons, List.not_mem_nil, or_false] at hq
          subst hq
          refine d_go rfl (by rfl) ?_
          refine wp_pushS _ _ rfl w2.heap.size gC (k + 1) cC _ (by rfl) rC (l.drop k) (i - k) (i + 1) (by omega) X (rc - k) (by rfl) HDL.out (HDK.out _ s4) (by omega) s4.size ?_
          intro gD cD W5 rD hgr _
          have s5 := s4.trans (below_of_grownBy hgr s4.size (fun j hj => by cases hj; exact (owns_lt rC _ rfl).1))
          clear rC hgr
          refine ⟨s5, ?_⟩
          simp only [List.getElem_toArray, List.getElem_cons_succ, List.getElem_cons_zero, Act.put, List.setIfInBounds_toArray, List.set_cons_succ, List.set_cons_zero]
          refine wpAnyH_take (i := 12) (v := .slice (some ⟨gD, 0, none⟩) (i + 1) cD) rfl (by kernel_rfl) (by kernel_rfl) (by kernel_rfl) (fun _ _ _ h => h) (Yields.yieldsIf (Or.inl ⟨by rfl, fun w => by go_simp⟩)) s5 ?_
          refine wpAnyH_done (by kernel_rfl) ?_ _
          simp only [List.getElem_toArray, List.getElem_cons_succ, List.getElem_cons_zero, Act.put, List.setIfInBounds_toArray, List.set_cons_succ, List.set_cons_zero]
          have hd3 := hd2.below s5
          have hG3 := d_grown hG2 s5
          have hlD := ownsRow_len rD
          have HLD := Lib.hid hlD; clear hlD
          go_wp2
          go_roundw
          case rel => exact ⟨i + 1, gD, cD, _, by omega, by go_num, rfl, by have := HLD.out; rw [List.length_map] at this; exact this, ownsRow_base rD hws, by rw [← Nat.add_assoc]; exact hd3, hG3⟩
          case measure => simp [intOf]; omega
        · skip
          refine d_go rfl (by rfl) ?_
          unfold Oper.wp
          go_simp
          have s2 := s1.alloc s1.size (.cells #[.int .i64 (i : Int)] 3)
          have hU := HeldB.new W1 3 #[.int .i64 (i : Int)]
          have rA2 := rA.alloc (.cells #[.int .i64 (i : Int)] 3)
          have hne : W1.heap.size ≠ gA := by have := (owns_lt rA _ rfl).2; simp at this; omega
          clear rA
          have rA := rA2
          generalize W1.heap.size = U at *
          generalize hz2 : W1.alloc (.cells #[.int .i64 (i : Int)] 3) = W2 at *
          clear hz2
          refine ⟨s2, ?_⟩
          refine wpAnyH_all (rs := [4]) (by kernel_rfl) (by decide) ?_
          intro q hq
          simp only [List.mem_cons, List.not_mem_nil, or_false] at hq
          subst hq
          refine d_go rfl (by rfl) ?_
          refine wp_pushS _ _ rfl w2.heap.size gA 0 0 [] (by rfl) rA (l.take k) k k (Nat.zero_add _) ⟨g, 0, none⟩ rc (by rfl) HTL.out (HTK.out _ s2) (by omega) s2.size ?_
          intro gB cB W3 rB hgr _
          have s3 := s2.trans (below_of_grownBy hgr s2.size (fun j hj => by cases hj; exact (owns_lt rA _ rfl).1))
          replace hU := hU.kept hgr (by simp only [ne_eq, Option.some.injEq]; exact hne)
          clear hne
          clear rA hgr
          refine ⟨s3, ?_⟩
          simp only [List.getElem_toArray, List.getElem_cons_succ, List.getElem_cons_zero, Act.put, List.setIfInBounds_toArray, List.set_cons_succ, List.set_cons_zero]
          refine wpAnyH_all (rs := [7]) (by kernel_rfl) (by decide) ?_
          intro q hq
          simp only [List.mem_cons, List.not_mem_nil, or_false] at hq
          subst hq
          refine d_go rfl (by rfl) ?_
          refine wp_pushS _ _ rfl w2.heap.size gB k cB _ (by rfl) rB [(i : Int)] 1 (k + 1) rfl ⟨U, 0, none⟩ 1 (by rfl) rfl (d_elem hU) (by omega) s3.size ?_
          intro gC cC W4 rC hgr _
          have s4 := s3.trans (below_of_grownBy hgr s3.size (fun j hj => by cases hj; exact (owns_lt rB _ rfl).1))
          clear rB hU hgr
          refine ⟨s4, ?_⟩
          simp only [List.getElem_toArray, List.getElem_cons_succ, List.getElem_cons_zero, Act.put, List.setIfInBounds_toArray, List.set_cons_succ, List.set_cons_zero]
          refine wpAnyH_all (rs := [11]) (by kernel_rfl) (by decide) ?_
          intro q hq
          simp only [List.mem_cons, List.not_mem_nil, or_false] at hq
          subst hq
          refine d_go rfl (by rfl) ?_
          refine wp_pushS _ _ rfl w2.heap.size gC (k + 1) cC _ (by rfl) rC (l.drop k) (i - k) (i + 1) (by omega) X (rc - k) (by rfl) HDL.out (HDK.out _ s4) (by omega) s4.size ?_
          intro gD cD W5 rD hgr _
          have s5 := s4.trans (below_of_grownBy hgr s4.size (fun j hj => by cases hj; exact (owns_lt rC _ rfl).1))
          clear rC hgr
          refine ⟨s5, ?_⟩
          simp only [List.getElem_toArray, List.getElem_cons_succ, List.getElem_cons_zero, Act.put, List.setIfInBounds_toArray, List.set_cons_succ, List.set_cons_zero]
          refine wpAnyH_take (i := 12) (v := .slice (some ⟨gD, 0, none⟩) (i + 1) cD) rfl (by kernel_rfl) (by kernel_rfl) (by kernel_rfl) (fun _ _ _ h => h) (Yields.yieldsIf (Or.inl ⟨by rfl, fun w => by go_simp⟩)) s5 ?_
          refine wpAnyH_done (by kernel_rfl) ?_ _
          simp only [List.getElem_toArray, List.getElem_cons_succ, List.getElem_cons_zero, Act.put, List.setIfInBounds_toArray, List.set_cons_succ, List.set_cons_zero]
          have hd3 := hd2.below s5
          have hG3 := d_grown hG2 s5
          have hlD := ownsRow_len rD
          have HLD := Lib.hid hlD; clear hlD
          go_wp2
          go_roundw
          case rel => exact ⟨i + 1, gD, cD, _, by omega, by go_num, rfl, by have := HLD.out; rw [List.length_map] at this; exact this, ownsRow_base rD hws, by rw [← Nat.add_assoc]; exact hd3, hG3⟩
          case measure => simp [intOf]; omega
      · skip
        refine d_go rfl (by rfl) ?_
        unfold Oper.wp
        go_simp
        have s1 := s0.alloc s0.size (.cells #[.int .i64 (i : Int)] 3)
        have hU := HeldB.new W0 3 #[.int .i64 (i : Int)]
        generalize W0.heap.size = U at *
        generalize hz1 : W0.alloc (.cells #[.int .i64 (i : Int)] 3) = W1 at *
        clear hz1
        refine ⟨s1, ?_⟩
        refine wpAnyH_all (rs := [0]) (by kernel_rfl) (by decide) ?_
        intro q hq
        simp only [List.mem_cons, List.not_mem_nil, or_false] at hq
        subst hq
        refine d_go rfl (by rfl) ?_
        unfold Oper.wp
        go_simp
        have s2 := s1.alloc s1.size (.cells #[] 3)
        have rA : (W1.alloc (.cells #[] 3)).ownsRow w2.heap.size 3 1 (.slice (some ⟨W1.heap.size, 0, none⟩) 0 0) 0 (([] : List Int).map (Value.int .i64)) := ownsRow_base (World.ownsRow_made W1 #[] 0 (Nat.le_refl _) (Nat.zero_le _) rfl) s1.size
        have hU2 := hU.alloc (.cells #[] 3)
        have hne : U ≠ W1.heap.size := by have := hU.lt; omega
        clear hU
        have hU := hU2
        generalize W1.heap.size = gA at *
        generalize hz2 : W1.alloc (.cells #[] 3) = W2 at *
        clear hz2
        refine ⟨s2, ?_⟩
        refine wpAnyH_all (rs := [4]) (by kernel_rfl) (by decide) ?_
        intro q hq
        simp only [List.mem_cons, List.not_mem_nil, or_false] at hq
        subst hq
        refine d_go rfl (by rfl) ?_
        refine wp_pushS _ _ rfl w2.heap.size gA 0 0 [] (by rfl) rA (l.take k) k k (Nat.zero_add _) ⟨g, 0, none⟩ rc (by rfl) HTL.out (HTK.out _ s2) (by omega) s2.size ?_
        intro gB cB W3 rB hgr _
        have s3 := s2.trans (below_of_grownBy hgr s2.size (fun j hj => by cases hj; exact (owns_lt rA _ rfl).1))
        replace hU := hU.kept hgr (by simp only [ne_eq, Option.some.injEq]; exact hne)
        clear hne
        clear rA hgr
        refine ⟨s3, ?_⟩
        simp only [List.getElem_toArray, List.getElem_cons_succ, List.getElem_cons_zero, Act.put, List.setIfInBounds_toArray, List.set_cons_succ, List.set_cons_zero]
        refine wpAnyH_all (rs := [7]) (by kernel_rfl) (by decide) ?_
        intro q hq
        simp only [List.mem_cons, List.not_mem_nil, or_false] at hq
        subst hq
        refine d_go rfl (by rfl) ?_
        refine wp_pushS _ _ rfl w2.heap.size gB k cB _ (by rfl) rB [(i : Int)] 1 (k + 1) rfl ⟨U, 0, none⟩ 1 (by rfl) rfl (d_elem hU) (by omega) s3.size ?_
        intro gC cC W4 rC hgr _
        have s4 := s3.trans (below_of_grownBy hgr s3.size (fun j hj => by cases hj; exact (owns_lt rB _ rfl).1))
        clear rB hU hgr
        refine ⟨s4, ?_⟩
        simp only [List.getElem_toArray, List.getElem_cons_succ, List.getElem_cons_zero, Act.put, List.setIfInBounds_toArray, List.set_cons_succ, List.set_cons_zero]
        refine wpAnyH_all (rs := [11]) (by kernel_rfl) (by decide) ?_
        intro q hq
        simp only [List.mem_cons, List.not_mem_nil, or_false] at hq
        subst hq
        refine d_go rfl (by rfl) ?_
        refine wp_pushS _ _ rfl w2.heap.size gC (k + 1) cC _ (by rfl) rC (l.drop k) (i - k) (i + 1) (by omega) X (rc - k) (by rfl) HDL.out (HDK.out _ s4) (by omega) s4.size ?_
        intro gD cD W5 rD hgr _
        have s5 := s4.trans (below_of_grownBy hgr s4.size (fun j hj => by cases hj; exact (owns_lt rC _ rfl).1))
        clear rC hgr
        refine ⟨s5, ?_⟩
        simp only [List.getElem_toArray, List.getElem_cons_succ, List.getElem_cons_zero, Act.put, List.setIfInBounds_toArray, List.set_cons_succ, List.set_cons_zero]
        refine wpAnyH_take (i := 12) (v := .slice (some ⟨gD, 0, none⟩) (i + 1) cD) rfl (by kernel_rfl) (by kernel_rfl) (by kernel_rfl) (fun _ _ _ h => h) (Yields.yieldsIf (Or.inl ⟨by rfl, fun w => by go_simp⟩)) s5 ?_
        refine wpAnyH_done (by kernel_rfl) ?_ _
        simp only [List.getElem_toArray, List.getElem_cons_succ, List.getElem_cons_zero, Act.put, List.setIfInBounds_toArray, List.set_cons_succ, List.set_cons_zero]
        have hd3 := hd2.below s5
        have hG3 := d_grown hG2 s5
        have hlD := ownsRow_len rD
        have HLD := Lib.hid hlD; clear hlD
        go_wp2
        go_roundw
        case rel => exact ⟨i + 1, gD, cD, _, by omega, by go_num, rfl, by have := HLD.out; rw [List.length_map] at this; exact this, ownsRow_base rD hws, by rw [← Nat.add_assoc]; exact hd3, hG3⟩
        case measure => simp [intOf]; omega
    · obtain rfl : i = n := by omega
      have h1 : 1 ≤ i := by omega
      have hlf : decide ((i : Int) < (i : Int)) = false := by rw [decide_eq_false_iff_not]; omega
      go_wp2_with fail
      refine (pick_c aR kR cR (N + 1 + i) B 30 _ (by omega) hd).mono ?_
      rintro e w2 ⟨v, rfl, hv, hd2, hg2⟩
      have hgl := owns_lt hrow _ rfl
      have hrow2 := hrow.kept hg2 (.inr (by simp only [Value.ownBlock, ne_eq, Option.some.injEq]; have := hgl.1; simp at this; omega))
      have hG2 := grownBy_trans hG hg2
      clear hd hg2 hrow hG hv
      have hRR : RdC aR kR cR (N + 10) B w2 := hd2.mono (by omega)
      clear hd2
      by_cases hz : v = 0
      · have hzb : ((v : Int) == 0) = true := by rw [hz]; rfl
        have hcell := hrow2.cellAt 0 (by omega)
        obtain ⟨z, hzz⟩ : ∃ z, (l.map (Value.int .i64))[0]? = some z := ⟨_, List.getElem?_eq_getElem (by rw [List.length_map, HL.out]; omega)⟩
        rw [hzz] at hcell
        have hfz := hrow2.frozenAt 0
        have hst := (hrow2.stored 0 (.int .i64 (i : Int))).1
        rw [← List.map_set] at hst
        have hgs : w.grownBy (w2.setCell ⟨g, 0, none⟩ (.int .i64 (i : Int))) (some B) := ⟨hG2.os, hG2.tape, hG2.output, by rw [World.size_setCell]; exact hG2.size, fun j hj hne => (Below.heap_setCell w2 ⟨g, 0, none⟩ _ j (by have := hgl.1; simp at this ⊢; omega)).trans (hG2.block j hj hne)⟩
        have hRS : RdC aR kR cR (N + 10) B (w2.setCell ⟨g, 0, none⟩ (.int .i64 (i : Int))) := hRR.set_other (by have := hgl.1; simp at this; omega) (by
          rcases HCD.out with h0 | h0
          · exact .inl h0
          · exact .inr fun a ha e => by have := h0 a ha; have := hgl.1; simp at this; omega) 0 _
        clear hRR
        clear hz hzz
        have hset : (l.set 0 (i : Int)).length = i := by rw [List.length_set]; exact HL.out
        have HST := Lib.hid hset; clear hset
        have hi0 : (0 : Int) < (i : Int) := by omega
        go_wp2
        go_ret
        refine ⟨g, rc, l.set 0 (i : Int), ?_, ?_, ?_, ?_, ?_, hRS⟩
        · rw [HST.out]; exact h1
        · rw [HST.out]; omega
        · rw [HST.out]; rfl
        · rw [HST.out]; exact hst
        · exact hgs
      · have hzb : ((v : Int) == 0) = false := by rw [beq_eq_false_iff_ne]; omega
        clear hz
        go_wp2
        go_ret
        exact ⟨g, rc, l, by rw [HL.out]; exact h1, by rw [HL.out]; omega, by rw [HL.out]; rfl, by rw [HL.out]; exact hrow2, hG2, hRR⟩

theorem RdC.code {ao : Option Addr} {cap : Nat} {c : List UInt8} {N B : Nat} {w : World} (h : RdC ao cap c N B w) : c.length = 0 ∨ ∀ a, ao = some a → a.block < w.heap.size := by
  obtain ⟨p, h1, h2, h3, h4, h5⟩ := h
  rcases Nat.eq_zero_or_pos c.length with h0 | h0
  · exact .inl h0
  · obtain ⟨b, o, rfl, hc⟩ := h4.byte 0 h0
    exact .inr fun a ha => by cases ha; exact cell_lt_size hc
theorem l92Perm_any (N B most : Nat) (w : World) (hN : N ≤ 1000) (hm : 1 ≤ most) (hm8 : most ≤ 8) (h : RdAt N B w) :
    Calls Try.prog 49 #[.pointer (some ⟨B, 0, none⟩), .int .i64 (most : Int)] w fun e w' => ∃ (g rc : Nat) (l : List Int), 1 ≤ l.length ∧ l.length ≤ 8 ∧ e = .returned (.slice (some ⟨g, 0, none⟩) l.length rc) ∧ w'.ownsRow w.heap.size 3 1 (.slice (some ⟨g, 0, none⟩) l.length rc) l.length (l.map (Value.int .i64)) ∧ w.grownBy w' (some B) ∧ RdAt (N + 10) B w' := by
  obtain ⟨ao, cap, c, hc⟩ := h.told
  refine (l92Perm_c ao cap c N B most w hN hm hm8 hc.code hc).mono ?_
  rintro e w' ⟨g, rc, l, e1, e2, e3, e4, e5, e6⟩
  exact ⟨g, rc, l, e1, e2, e3, e4, e5, e6.rd⟩
set_option maxRecDepth 100000 in
theorem drawPermIn_any (aC : Option Addr) (kC : Nat) (c : List UInt8) (w : World) (zC : c.length ≤ kC) (dC : c.length ≤ 1048576) (cC : CellsAt w aC (c.map byteV)) :
    Calls Try.prog 14 #[.slice aC c.length kC] w fun e w' => ∃ (ro : Option Addr) (rc : Nat) (l : List Int), 1 ≤ l.length ∧ l.length ≤ 8 ∧ e = .returned (.slice ro l.length rc) ∧ CellsAt w' ro (l.map (Value.int .i64)) ∧ Below w.heap.size w w' := by
  have HO := Lib.hid (l6Open_any aC kC c w zC dC cC)
  clear cC
  go_enter Try.func14, Try.ntmps14
  go_wp2_with fail
  refine HO.out.mono ?_
  rintro e w1 ⟨rfl, hr1, hb1⟩
  go_wp2_with fail
  refine (l92Perm_any 0 w.heap.size 8 _ (by omega) (by omega) (by omega) hr1).mono ?_
  rintro e w2 ⟨g, rc, l, h1, h8, rfl, ho, hg, -⟩
  have hb2 : Below w.heap.size w w2 := hb1.trans (below_of_grownBy hg hb1.size (fun k hk => by cases hk; exact Nat.le_refl _))
  go_wp2
  go_ret
  exact ⟨_, rc, l, h1, h8, rfl, owns_cells ho, hb2⟩
set_option maxRecDepth 100000 in
theorem l92One_any (aC : Option Addr) (kC : Nat) (c : List UInt8) (w : World) (zC : c.length ≤ kC) (dC : c.length ≤ 1048576) (cC : CellsAt w aC (c.map byteV)) :
    Calls Try.prog 61 #[.slice aC c.length kC] w fun e w' => ∃ (ro : Option Addr) (rc : Nat) (l : List Int), 1 ≤ l.length ∧ l.length ≤ 8 ∧ e = .returned (.slice ro l.length rc) ∧ CellsAt w' ro (l.map (Value.int .i64)) ∧ Below w.heap.size w w' := by
  have HO := Lib.hid (l6Open_any aC kC c w zC dC cC)
  clear cC
  go_enter Try.func61, Try.ntmps61
  go_wp2_with fail
  refine HO.out.mono ?_
  rintro e w1 ⟨rfl, hr1, hb1⟩
  go_wp2_with fail
  refine (l92Perm_any 0 w.heap.size 7 _ (by omega) (by omega) (by omega) hr1).mono ?_
  rintro e w2 ⟨g, rc, l, h1, h8, rfl, ho, hg, -⟩
  have hb2 : Below w.heap.size w w2 := hb1.trans (below_of_grownBy hg hb1.size (fun k hk => by cases hk; exact Nat.le_refl _))
  go_wp2
  go_ret
  exact ⟨_, rc, l, h1, h8, rfl, owns_cells ho, hb2⟩
theorem drawPermBack_any (aC : Option Addr) (kC : Nat) (c : List UInt8) (w : World) (zC : c.length ≤ kC) (dC : c.length ≤ 1048576) (cC : CellsAt w aC (c.map byteV)) :
    Calls Try.prog 26 #[.slice aC c.length kC] w fun e w' => ∃ (ro : Option Addr) (rc : Nat) (l : List Int), 1 ≤ l.length ∧ l.length ≤ 8 ∧ e = .returned (.slice ro l.length rc) ∧ CellsAt w' ro (l.map (Value.int .i64)) ∧ Below w.heap.size w w' := by
  have HN := Lib.hid (l92One_any aC kC c w zC dC cC)
  clear cC
  go_enter Try.func26, Try.ntmps26
  go_wp2_with fail
  refine HN.out.mono ?_
  rintro e w1 ⟨ro, rc, l, h1, h8, rfl, ho, hb⟩
  go_wp2
  go_ret
  exact ⟨_, rc, l, h1, h8, rfl, ho, hb⟩
theorem drawPermOther_any (aC : Option Addr) (kC : Nat) (c : List UInt8) (w : World) (zC : c.length ≤ kC) (dC : c.length ≤ 1048576) (cC : CellsAt w aC (c.map byteV)) :
    Calls Try.prog 29 #[.slice aC c.length kC] w fun e w' => ∃ (ro : Option Addr) (rc : Nat) (l : List Int), 1 ≤ l.length ∧ l.length ≤ 8 ∧ e = .returned (.slice ro l.length rc) ∧ CellsAt w' ro (l.map (Value.int .i64)) ∧ Below w.heap.size w w' := by
  have HN := Lib.hid (l92One_any aC kC c w zC dC cC)
  clear cC
  go_enter Try.func29, Try.ntmps29
  go_wp2_with fail
  refine HN.out.mono ?_
  rintro e w1 ⟨ro, rc, l, h1, h8, rfl, ho, hb⟩
  go_wp2
  go_ret
  exact ⟨_, rc, l, h1, h8, rfl, ho, hb⟩

end Go.Proofs.Ytnkfopnkgingpaa
