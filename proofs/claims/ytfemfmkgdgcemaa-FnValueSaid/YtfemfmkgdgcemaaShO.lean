
/-
  The program reads kinds of pieces. (Walks.)
-/
import Derived.Test.YtfemfmkgdgcemaaShL
import Derived.Test.YtfemfmkgdgcemaaShE
import Derived.Test.YtfemfmkgdgcemaaMeet
namespace Go.Proofs.Ytfemfmkgdgcemaa
open Go.RowKit

theorem owns_cell {w : World} {base : Nat} {e : TypeId} {size : Nat} {ao : Option Addr} {m cap n g : Nat} {xs : List Value} (h : w.ownsRow base e size (.slice ao m cap) n xs) (ha : Apart ao (some ⟨g, 0, none⟩)) (u : Value) (k : Nat) : (w.setCell ⟨g, k, none⟩ u).ownsRow base e size (.slice ao m cap) n xs := by
  refine ownsRow_setCell_other h ?_ u
  cases ao with
  | none => simp [Value.ownBlock]
  | some a => simp only [Value.ownBlock, ne_eq, Option.some.injEq]; exact ha a _ rfl rfl
theorem kind_cell {w : World} {b o g k : Nat} {v : Value} (h : w.cell? ⟨b, o, none⟩ = some v) (hne : b ≠ g) (u : Value) : (w.setCell ⟨g, k, none⟩ u).cell? ⟨b, o, none⟩ = some v :=
  (World.cell?_of_block (a := ⟨b, o, none⟩) (Below.heap_setCell w ⟨g, k, none⟩ u b hne)).trans h
/-- kinds that are handed back, or none -/
def KindsRet (base n : Nat) (C : List Value) (ok : Bool) (e : Ending) (w' : World) : Prop :=
  (ok = true → ∃ ko kd, e = .returned (.tuple #[.slice ko n kd, .bool true]) ∧ w'.ownsRow base 68 3 (.slice ko n kd) n C) ∧ (ok = false → e = .returned (.tuple #[.slice none 0 0, .bool false]))
theorem Try.infoKind : (Try.prog.info? 68).map (fun i => (i.zero, i.size, i.bytes)) = some (some (.agg #[.int .i64 0, .int .i64 0, .int .i64 0]), 3, 24) := by kernel_rfl
theorem info_kind {P : Program} {e : TypeId} {z : Option Value} {s b : Nat} (h : (P.info? e).map (fun i => (i.zero, i.size, i.bytes)) = some (z, s, b)) : ∃ i, P.info? e = some i ∧ i.zero = z ∧ i.size = s ∧ i.bytes = b := by
  cases hi : P.info? e with
  | none => rw [hi] at h; cases h
  | some i =>
    rw [hi] at h
    simp only [Option.map_some, Option.some.injEq, Prod.mk.injEq] at h
    exact ⟨i, rfl, h.1, h.2.1, h.2.2⟩
theorem build_kd (x y v : Int) (w : World) : (Instr.buildSlice 51 1 #[(0, .agg #[.int .i64 x, .int .i64 y, .int .i64 v])]).run Try.prog w = .ok (.slice (some ⟨w.heap.size, 0, none⟩) 1 1) (w.alloc (.cells #[.int .i64 x, .int .i64 y, .int .i64 v] 68)) := by
  obtain ⟨ik, hki, hkz, hk1, hk2⟩ := info_kind Try.infoKind
  exact run_buildSlice w _ _ 1 _ #[.int .i64 x, .int .i64 y, .int .i64 v] ik _ Try.underlying51 hki hkz (by rw [hk1]; decide) (by rw [hk1]; decide) (by rw [hk1]; kernel_rfl)
theorem shYields_cell {P : Program} {ops : Array Oper} {S : World → Prop} {op : Oper} {a : Act} (hw : Region.wanted op (yielded ops a.tmps) = true) (ty : TypeId) (x : Operand) (ho : op.op = .load ty x) (v : Value)
    (hr : ∀ w, S w → (Instr.loadAt ty (a.eval x)).run P w = .ok v w) : YieldsIf P ops S op v a :=
  .inl ⟨hw, fun w hw' => by
    unfold execOp
    simp only [ho, Sem.run_bind, Sem.run_pure, Result.andThen_ok, hr w hw']⟩
set_option maxRecDepth 100000 in
set_option maxHeartbeats 8000000 in
theorem readKinds_any (ao bo co : Option Addr) (ka kb kc : Nat) (ws hs vs : List Int) (w : World) (hwl : ws.length ≤ 1048576) (ca : CellsAt w ao (ws.map (Value.int .i64))) (cb : CellsAt w bo (hs.map (Value.int .i64))) (cc : CellsAt w co (vs.map (Value.int .i64))) :
    Calls Try.prog 42 #[.slice ao ws.length ka, .slice bo hs.length kb, .slice co vs.length kc] w fun e w' => KindsRet w.heap.size ws.length (kdC (kindsN ws hs vs ws.length)) (kindsB ws hs vs) e w' ∧ Below w.heap.size w w' := by
  obtain ⟨ik, hki, hkz, hk1, hk2⟩ := info_kind Try.infoKind
  have HL0 := Lib.hid (show kindsL ws hs vs = decide (1 ≤ ws.length ∧ ws.length ≤ 4 ∧ hs.length = ws.length ∧ vs.length = ws.length) from rfl)
  by_cases hl : 1 ≤ ws.length ∧ ws.length ≤ 4 ∧ hs.length = ws.length ∧ vs.length = ws.length
  · have HL := Lib.hid (show kindsL ws hs vs = true by rw [HL0.out]; exact decide_eq_true hl)
    obtain ⟨h1, h4, h2, h3⟩ := hl
    have hn1 : decide ((ws.length : Int) < 1) = false := decide_eq_false (by omega)
    have hn4 : decide ((4 : Int) < (ws.length : Int)) = false := decide_eq_false (by omega)
    have CA := Lib.hid ca; have CB := Lib.hid cb; have CC := Lib.hid cc
    have HNO := Lib.hid (fun (i : Nat) (hi : i < ws.length) (h : kindB ws hs vs i = false) => kindsB_no hi h)
    have HYES := Lib.hid (fun (h : ∀ i, i < ws.length → kindB ws hs vs i = true) => kindsB_yes HL.out h)
    have HBI := Lib.hid (fun i => show kindB ws hs vs i = (shB (ws.getD i 0) (hs.getD i 0) && decide (0 ≤ vs.getD i 0 ∧ vs.getD i 0 ≤ 99)) from rfl)
    have HSU := Lib.hid (kindsN_succ ws hs vs)
    have HOK := Lib.hid (fun (i : Nat) (h : kindB ws hs vs i = true) => kindB_ok h)
    rw [h2, h3]
    have HH := Lib.hid h2; have HV := Lib.hid h3
    clear ca cb cc HL0 HL hwl h2 h3
    generalize hN : ws.length = N at *
    have HN := Lib.hid hN; clear hN
    go_enter Try.func42, Try.ntmps42
    go_wp2_with (refine wpList_makeK _ rfl 51 _ _ rfl w.heap.size 68 ik (.agg #[.int .i64 0, .int .i64 0, .int .i64 0]) 3 Try.underlying51 hki hkz hk1 N rfl rfl (by rw [hk2]; omega) (by unfold maxLen; omega) (Nat.le_refl _) ?_; intro w0 hown0 hg0 hsz0)
    go_loopw [9, 38] (fun vk vi wr => ∃ (i : Nat) (ko : Option Addr) (kd : Nat), i ≤ N ∧ vi = .int .i64 (i : Int) ∧ vk = .slice ko i kd ∧ wr.ownsRow w.heap.size 68 3 (.slice ko i kd) i (kdC (kindsN ws hs vs i)) ∧ (∀ j, j < i → kindB ws hs vs j = true) ∧ Below w.heap.size w wr) (fun _ vi _ => N - (intOf vi).toNat)
    case atStart => exact ⟨0, _, _, by omega, rfl, rfl, hown0, fun j hj => by omega, below_of_grownBy hg0 (Nat.le_refl _) (fun k hk => by cases hk)⟩
    case round =>
      clear hown0 hg0 hsz0
      obtain ⟨i, ko, kd, hi, rfl, rfl, hown, hall, hB⟩ := hrel
      have HALL := Lib.hid hall; clear hall
      by_cases hlt : i < N
      · obtain ⟨b1, o1, rfl, d1⟩ := (CA.out.below hB).int i (by rw [HN.out]; exact hlt)
        obtain ⟨b2, o2, rfl, d2⟩ := (CB.out.below hB).int i (by rw [HH.out]; exact hlt)
        obtain ⟨b3, o3, rfl, d3⟩ := (CC.out.below hB).int i (by rw [HV.out]; exact hlt)
        have HB1 := Lib.hid (HBI.out i)
        obtain ⟨x, hx⟩ : ∃ v, ws.getD i 0 = v := ⟨_, rfl⟩
        obtain ⟨y, hy⟩ : ∃ v, hs.getD i 0 = v := ⟨_, rfl⟩
        obtain ⟨v, hv⟩ : ∃ z, vs.getD i 0 = z := ⟨_, rfl⟩
        rw [hx, hy, hv] at HB1
        rw [hx] at d1
        rw [hy] at d2
        rw [hv] at d3
        have HX := Lib.hid hx; have HY := Lib.hid hy; have HVV := Lib.hid hv
        clear hx hy hv
        cases hxy : shB x y
        · rw [hxy, Bool.false_and] at HB1
          have HFIN := Lib.hid (HNO.out i hlt HB1.out)
          clear HB1
          have HRD := Lib.hid (fun W => shRead_no hxy W)
          go_wp2
          refine wp_region_held (S := fun W => W.cell? ⟨b1, o1 + i, none⟩ = some (.int .i64 x) ∧ W.cell? ⟨b2, o2 + i, none⟩ = some (.int .i64 y)) (by kernel_rfl) ?_
          have hS : ({ wr with drawn := wr.drawn + 1 } : World).cell? ⟨b1, o1 + i, none⟩ = some (.int .i64 x) ∧ ({ wr with drawn := wr.drawn + 1 } : World).cell? ⟨b2, o2 + i, none⟩ = some (.int .i64 y) := ⟨d1, d2⟩
          replace hB : Below w.heap.size w ({ wr with drawn := wr.drawn + 1 } : World) := hB.trans (below_drewN _ _ 1)
          replace hown : ({ wr with drawn := wr.drawn + 1 } : World).ownsRow w.heap.size 68 3 (.slice ko i kd) i (kdC (kindsN ws hs vs i)) := hown
          have hc1 : b1 < ({ wr with drawn := wr.drawn + 1 } : World).heap.size := World.block_lt_of_cell? _ _ d1
          have hc2 : b2 < ({ wr with drawn := wr.drawn + 1 } : World).heap.size := World.block_lt_of_cell? _ _ d2
          clear d1 d2 d3
          generalize ({ wr with drawn := wr.drawn + 1 } : World) = w2 at *
          change Go.wpAnyH Try.prog Region.Mode.any _ _ _ 15 (Array.replicate 15 false) _ _
          refine wpAnyH_take (i := 0) (v := .slice (some ⟨b1, o1, none⟩) N ka) rfl (by kernel_rfl) (by kernel_rfl) (by kernel_rfl) (fun _ _ _ h => h) (Yields.yieldsIf (Or.inl ⟨by rfl, fun w => by go_simp⟩)) hS ?_
          refine wpAnyH_take (i := 1) (v := .int .i64 (i : Int)) rfl (by kernel_rfl) (by kernel_rfl) (by kernel_rfl) (fun _ _ _ h => h) (Yields.yieldsIf (Or.inl ⟨by rfl, fun w => by go_simp⟩)) hS ?_
          refine wpAnyH_take (i := 2) (v := .pointer (some ⟨b1, o1 + i, none⟩)) rfl (by kernel_rfl) (by kernel_rfl) (by kernel_rfl) (fun _ _ _ h => h) (Yields.yieldsIf (Or.inl ⟨by rfl, fun w => by go_simp⟩)) hS ?_
          refine wpAnyH_take (i := 3) (v := .int .i64 x) rfl (by kernel_rfl) (by kernel_rfl) (by kernel_rfl) (fun _ _ _ h => h) (shYields_cell (by rfl) 3 _ rfl _ (fun w' hw => by have hc := hw.1; go_simp)) hS ?_
          refine wpAnyH_take (i := 4) (v := .slice (some ⟨b2, o2, none⟩) N kb) rfl (by kernel_rfl) (by kernel_rfl) (by kernel_rfl) (fun _ _ _ h => h) (Yields.yieldsIf (Or.inl ⟨by rfl, fun w => by go_simp⟩)) hS ?_
          refine wpAnyH_take (i := 5) (v := .int .i64 (i : Int)) rfl (by kernel_rfl) (by kernel_rfl) (by kernel_rfl) (fun _ _ _ h => h) (Yields.yieldsIf (Or.inl ⟨by rfl, fun w => by go_simp⟩)) hS ?_
          refine wpAnyH_take (i := 6) (v := .pointer (some ⟨b2, o2 + i, none⟩)) rfl (by kernel_rfl) (by kernel_rfl) (by kernel_rfl) (fun _ _ _ h => h) (Yields.yieldsIf (Or.inl ⟨by rfl, fun w => by go_simp⟩)) hS ?_
          refine wpAnyH_take (i := 7) (v := .int .i64 y) rfl (by kernel_rfl) (by kernel_rfl) (by kernel_rfl) (fun _ _ _ h => h) (shYields_cell (by rfl) 3 _ rfl _ (fun w' hw => by have hc := hw.2; go_simp)) hS ?_
          refine wpAnyH_all (rs := [8, 12]) (by kernel_rfl) (by decide) ?_
          intro i' hi'
          simp only [List.mem_cons, List.not_mem_nil, or_false] at hi'
          rcases hi' with rfl | rfl
          · skip
            refine shOp_go rfl (by rfl) ?_
            unfold Oper.wp
            go_simp
            refine (HRD.out _).mono ?_
            rintro e w3 ⟨rfl, hb3⟩
            have hS3 : w3.cell? ⟨b1, o1 + i, none⟩ = some (.int .i64 x) ∧ w3.cell? ⟨b2, o2 + i, none⟩ = some (.int .i64 y) := ⟨cell_below hS.1 hb3, cell_below hS.2 hb3⟩
            replace hB := below_step hB hB.size hb3
            replace hown := ownsRow_below hown hb3
            replace hc1 : b1 < w3.heap.size := Nat.lt_of_lt_of_le hc1 hb3.size
            replace hc2 : b2 < w3.heap.size := Nat.lt_of_lt_of_le hc2 hb3.size
            clear hb3 HRD hS
            have hS := hS3
            clear hS3
            try refine ⟨hS, ?_⟩
            refine wpAnyH_take (i := 9) (v := .tuple #[.agg #[.int .i64 0, .int .i64 0], .bool false]) rfl (by kernel_rfl) (by kernel_rfl) (by kernel_rfl) (fun _ _ _ h => h) (Yields.yieldsIf (Or.inl ⟨by rfl, fun w => by go_simp⟩)) hS ?_
            refine wpAnyH_take (i := 10) (v := .agg #[.int .i64 0, .int .i64 0]) rfl (by kernel_rfl) (by kernel_rfl) (by kernel_rfl) (fun _ _ _ h => h) (Yields.yieldsIf (Or.inl ⟨by rfl, fun w => by go_simp⟩)) hS ?_
            refine wpAnyH_take (i := 11) (v := .bool false) rfl (by kernel_rfl) (by kernel_rfl) (by kernel_rfl) (fun _ _ _ h => h) (Yields.yieldsIf (Or.inl ⟨by rfl, fun w => by go_simp⟩)) hS ?_
            refine wpAnyH_all (rs := [12]) (by kernel_rfl) (by decide) ?_
            intro i' hi'
            simp only [List.mem_cons, List.not_mem_nil, or_false] at hi'
            subst hi'
            refine shOp_go rfl (by rfl) ?_
            unfold Oper.wp
            go_simp
            have kN := HeldB.new w3 36 #[.int .i64 0, .int .i64 0]
            have hS4 : (w3.alloc (.cells #[.int .i64 0, .int .i64 0] 36)).cell? ⟨b1, o1 + i, none⟩ = some (.int .i64 x) ∧ (w3.alloc (.cells #[.int .i64 0, .int .i64 0] 36)).cell? ⟨b2, o2 + i, none⟩ = some (.int .i64 y) := ⟨cell_below hS.1 (below_alloc _ _), cell_below hS.2 (below_alloc _ _)⟩
            have hgl : w.heap.size ≤ w3.heap.size := hB.size
            replace hB := hB.alloc hB.size (.cells #[.int .i64 0, .int .i64 0] 36)
            have hownA := hown
            replace hown := ownsRow_below hown (below_alloc w3 (.cells #[.int .i64 0, .int .i64 0] 36))
            have hap : Apart ko (some ⟨w3.heap.size, 0, none⟩) := fun a b ha hb' => by cases hb'; exact Nat.ne_of_lt (owns_lt hownA a ha).2
            clear hS hownA
            have hS := hS4
            clear hS4
            generalize w3.alloc (.cells #[.int .i64 0, .int .i64 0] 36) = wA at *
            generalize w3.heap.size = gA at *
            replace hc1 : b1 ≠ gA := by omega
            replace hc2 : b2 ≠ gA := by omega
            try refine ⟨hS, ?_⟩
            refine wpAnyH_all (rs := [13]) (by kernel_rfl) (by decide) ?_
            intro i' hi'
            simp only [List.mem_cons, List.not_mem_nil, or_false] at hi'
            subst hi'
            have c0 := kN.cell 0
            have c1 := kN.cell 1
            have f0 := kN.frozen 0
            have f1 := kN.frozen 1
            replace kN : HeldB ((wA.setCell ⟨gA, 0, none⟩ (.int .i64 0)).setCell ⟨gA, 1, none⟩ (.int .i64 0)) gA 36 #[.int .i64 0, .int .i64 0] := (kN.set 0 _).set 1 _
            refine shOp_go rfl (by rfl) ?_
            unfold Oper.wp
            go_simp
            replace hB := (hB.setCell (p := ⟨gA, 0, none⟩) hgl (.int .i64 0)).setCell (p := ⟨gA, 1, none⟩) hgl (.int .i64 0)
            replace hown := owns_cell (owns_cell hown hap (.int .i64 0) 0) hap (.int .i64 0) 1
            have hS5 : ((wA.setCell ⟨gA, 0, none⟩ (.int .i64 0)).setCell ⟨gA, 1, none⟩ (.int .i64 0)).cell? ⟨b1, o1 + i, none⟩ = some (.int .i64 x) ∧ ((wA.setCell ⟨gA, 0, none⟩ (.int .i64 0)).setCell ⟨gA, 1, none⟩ (.int .i64 0)).cell? ⟨b2, o2 + i, none⟩ = some (.int .i64 y) := ⟨kind_cell (kind_cell hS.1 hc1 _) hc1 _, kind_cell (kind_cell hS.2 hc2 _) hc2 _⟩
            clear hS c0 c1 f0 f1
            have hS := hS5
            clear hS5
            generalize (wA.setCell ⟨gA, 0, none⟩ (.int .i64 0)).setCell ⟨gA, 1, none⟩ (.int .i64 0) = wS at *
            try refine ⟨hS, ?_⟩
            refine wpAnyH_take (i := 14) (v := .bool false) rfl (by kernel_rfl) (by kernel_rfl) (by kernel_rfl) (fun _ _ _ h => h) (Yields.yieldsIf (Or.inl ⟨by rfl, fun w => by go_simp⟩)) hS ?_
            refine wpAnyH_done (by kernel_rfl) ?_ _
            go_wp2
            rw [HFIN.out]
            refine bodyPost_ret (v := .tuple #[.slice none 0 0, .bool false]) (by simp [results, Try.f42, go_sem]) rfl ⟨⟨fun h => (by cases h), fun _ => rfl⟩, hB⟩
          · skip
            refine shOp_go rfl (by rfl) ?_
            unfold Oper.wp
            go_simp
            have kN := HeldB.new w2 36 #[.int .i64 0, .int .i64 0]
            have hS4 : (w2.alloc (.cells #[.int .i64 0, .int .i64 0] 36)).cell? ⟨b1, o1 + i, none⟩ = some (.int .i64 x) ∧ (w2.alloc (.cells #[.int .i64 0, .int .i64 0] 36)).cell? ⟨b2, o2 + i, none⟩ = some (.int .i64 y) := ⟨cell_below hS.1 (below_alloc _ _), cell_below hS.2 (below_alloc _ _)⟩
            have hgl : w.heap.size ≤ w2.heap.size := hB.size
            replace hB := hB.alloc hB.size (.cells #[.int .i64 0, .int .i64 0] 36)
            have hownA := hown
            replace hown := ownsRow_below hown (below_alloc w2 (.cells #[.int .i64 0, .int .i64 0] 36))
            have hap : Apart ko (some ⟨w2.heap.size, 0, none⟩) := fun a b ha hb' => by cases hb'; exact Nat.ne_of_lt (owns_lt hownA a ha).2
            clear hS hownA
            have hS := hS4
            clear hS4
            generalize w2.alloc (.cells #[.int .i64 0, .int .i64 0] 36) = wA at *
            generalize w2.heap.size = gA at *
            replace hc1 : b1 ≠ gA := by omega
            replace hc2 : b2 ≠ gA := by omega
            try refine ⟨hS, ?_⟩
            refine wpAnyH_all (rs := [8]) (by kernel_rfl) (by decide) ?_
            intro i' hi'
            simp only [List.mem_cons, List.not_mem_nil, or_false] at hi'
            subst hi'
            refine shOp_go rfl (by rfl) ?_
            unfold Oper.wp
            go_simp
            refine (HRD.out _).mono ?_
            rintro e w3 ⟨rfl, hb3⟩
            have hS3 : w3.cell? ⟨b1, o1 + i, none⟩ = some (.int .i64 x) ∧ w3.cell? ⟨b2, o2 + i, none⟩ = some (.int .i64 y) := ⟨cell_below hS.1 hb3, cell_below hS.2 hb3⟩
            replace hB := below_step hB hB.size hb3
            replace hown := ownsRow_below hown hb3
            replace kN := kN.below hb3
            clear hb3 HRD hS
            have hS := hS3
            clear hS3
            try refine ⟨hS, ?_⟩
            refine wpAnyH_take (i := 9) (v := .tuple #[.agg #[.int .i64 0, .int .i64 0], .bool false]) rfl (by kernel_rfl) (by kernel_rfl) (by kernel_rfl) (fun _ _ _ h => h) (Yields.yieldsIf (Or.inl ⟨by rfl, fun w => by go_simp⟩)) hS ?_
            refine wpAnyH_take (i := 10) (v := .agg #[.int .i64 0, .int .i64 0]) rfl (by kernel_rfl) (by kernel_rfl) (by kernel_rfl) (fun _ _ _ h => h) (Yields.yieldsIf (Or.inl ⟨by rfl, fun w => by go_simp⟩)) hS ?_
            refine wpAnyH_take (i := 11) (v := .bool false) rfl (by kernel_rfl) (by kernel_rfl) (by kernel_rfl) (fun _ _ _ h => h) (Yields.yieldsIf (Or.inl ⟨by rfl, fun w => by go_simp⟩)) hS ?_
            refine wpAnyH_all (rs := [13]) (by kernel_rfl) (by decide) ?_
            intro i' hi'
            simp only [List.mem_cons, List.not_mem_nil, or_false] at hi'
            subst hi'
            have c0 := kN.cell 0
            have c1 := kN.cell 1
            have f0 := kN.frozen 0
            have f1 := kN.frozen 1
            replace kN : HeldB ((w3.setCell ⟨gA, 0, none⟩ (.int .i64 0)).setCell ⟨gA, 1, none⟩ (.int .i64 0)) gA 36 #[.int .i64 0, .int .i64 0] := (kN.set 0 _).set 1 _
            refine shOp_go rfl (by rfl) ?_
            unfold Oper.wp
            go_simp
            replace hB := (hB.setCell (p := ⟨gA, 0, none⟩) hgl (.int .i64 0)).setCell (p := ⟨gA, 1, none⟩) hgl (.int .i64 0)
            replace hown := owns_cell (owns_cell hown hap (.int .i64 0) 0) hap (.int .i64 0) 1
            have hS5 : ((w3.setCell ⟨gA, 0, none⟩ (.int .i64 0)).setCell ⟨gA, 1, none⟩ (.int .i64 0)).cell? ⟨b1, o1 + i, none⟩ = some (.int .i64 x) ∧ ((w3.setCell ⟨gA, 0, none⟩ (.int .i64 0)).setCell ⟨gA, 1, none⟩ (.int .i64 0)).cell? ⟨b2, o2 + i, none⟩ = some (.int .i64 y) := ⟨kind_cell (kind_cell hS.1 hc1 _) hc1 _, kind_cell (kind_cell hS.2 hc2 _) hc2 _⟩
            clear hS c0 c1 f0 f1
            have hS := hS5
            clear hS5
            generalize (w3.setCell ⟨gA, 0, none⟩ (.int .i64 0)).setCell ⟨gA, 1, none⟩ (.int .i64 0) = wS at *
            try refine ⟨hS, ?_⟩
            refine wpAnyH_take (i := 14) (v := .bool false) rfl (by kernel_rfl) (by kernel_rfl) (by kernel_rfl) (fun _ _ _ h => h) (Yields.yieldsIf (Or.inl ⟨by rfl, fun w => by go_simp⟩)) hS ?_
            refine wpAnyH_done (by kernel_rfl) ?_ _
            go_wp2
            rw [HFIN.out]
            refine bodyPost_ret (v := .tuple #[.slice none 0 0, .bool false]) (by simp [results, Try.f42, go_sem]) rfl ⟨⟨fun h => (by cases h), fun _ => rfl⟩, hB⟩
        · rw [hxy, Bool.true_and] at HB1
          by_cases hvb : 0 ≤ v ∧ v ≤ 99
          · rw [decide_eq_true hvb] at HB1
            obtain ⟨hv0, hv9⟩ := hvb
            have hvd1 : decide (v < 0) = false := decide_eq_false (by omega)
            have hvd2 : decide ((99 : Int) < v) = false := decide_eq_false (by omega)
            have HK := Lib.hid (HOK.out i HB1.out)
            have HKC := Lib.hid (show kdC (kindsN ws hs vs (i + 1)) = kdC (kindsN ws hs vs i) ++ [.int .i64 x, .int .i64 y, .int .i64 v] by
              obtain ⟨_, e1, e2, e3⟩ := HK.out
              rw [HSU.out, kdC_snoc, ← HX.out, ← HY.out, ← HVV.out, e1, e2, e3]; rfl)
            have HALL2 := Lib.hid (rows_step (P := fun j => kindB ws hs vs j = true) HALL.out HB1.out)
            clear HB1 HK
            have HRD := Lib.hid (fun W => shRead_yes hxy W)
            go_wp2
            refine wp_region_held (S := fun W => W.cell? ⟨b1, o1 + i, none⟩ = some (.int .i64 x) ∧ W.cell? ⟨b2, o2 + i, none⟩ = some (.int .i64 y)) (by kernel_rfl) ?_
            have hS : ({ wr with drawn := wr.drawn + 1 } : World).cell? ⟨b1, o1 + i, none⟩ = some (.int .i64 x) ∧ ({ wr with drawn := wr.drawn + 1 } : World).cell? ⟨b2, o2 + i, none⟩ = some (.int .i64 y) := ⟨d1, d2⟩
            replace hB : Below w.heap.size w ({ wr with drawn := wr.drawn + 1 } : World) := hB.trans (below_drewN _ _ 1)
            replace hown : ({ wr with drawn := wr.drawn + 1 } : World).ownsRow w.heap.size 68 3 (.slice ko i kd) i (kdC (kindsN ws hs vs i)) := hown
            have hc1 : b1 < ({ wr with drawn := wr.drawn + 1 } : World).heap.size := World.block_lt_of_cell? _ _ d1
            have hc2 : b2 < ({ wr with drawn := wr.drawn + 1 } : World).heap.size := World.block_lt_of_cell? _ _ d2
            clear d1 d2 d3
            generalize ({ wr with drawn := wr.drawn + 1 } : World) = w2 at *
            change Go.wpAnyH Try.prog Region.Mode.any _ _ _ 15 (Array.replicate 15 false) _ _
            refine wpAnyH_take (i := 0) (v := .slice (some ⟨b1, o1, none⟩) N ka) rfl (by kernel_rfl) (by kernel_rfl) (by kernel_rfl) (fun _ _ _ h => h) (Yields.yieldsIf (Or.inl ⟨by rfl, fun w => by go_simp⟩)) hS ?_
            refine wpAnyH_take (i := 1) (v := .int .i64 (i : Int)) rfl (by kernel_rfl) (by kernel_rfl) (by kernel_rfl) (fun _ _ _ h => h) (Yields.yieldsIf (Or.inl ⟨by rfl, fun w => by go_simp⟩)) hS ?_
            refine wpAnyH_take (i := 2) (v := .pointer (some ⟨b1, o1 + i, none⟩)) rfl (by kernel_rfl) (by kernel_rfl) (by kernel_rfl) (fun _ _ _ h => h) (Yields.yieldsIf (Or.inl ⟨by rfl, fun w => by go_simp⟩)) hS ?_
            refine wpAnyH_take (i := 3) (v := .int .i64 x) rfl (by kernel_rfl) (by kernel_rfl) (by kernel_rfl) (fun _ _ _ h => h) (shYields_cell (by rfl) 3 _ rfl _ (fun w' hw => by have hc := hw.1; go_simp)) hS ?_
            refine wpAnyH_take (i := 4) (v := .slice (some ⟨b2, o2, none⟩) N kb) rfl (by kernel_rfl) (by kernel_rfl) (by kernel_rfl) (fun _ _ _ h => h) (Yields.yieldsIf (Or.inl ⟨by rfl, fun w => by go_simp⟩)) hS ?_
            refine wpAnyH_take (i := 5) (v := .int .i64 (i : Int)) rfl (by kernel_rfl) (by kernel_rfl) (by kernel_rfl) (fun _ _ _ h => h) (Yields.yieldsIf (Or.inl ⟨by rfl, fun w => by go_simp⟩)) hS ?_
            refine wpAnyH_take (i := 6) (v := .pointer (some ⟨b2, o2 + i, none⟩)) rfl (by kernel_rfl) (by kernel_rfl) (by kernel_rfl) (fun _ _ _ h => h) (Yields.yieldsIf (Or.inl ⟨by rfl, fun w => by go_simp⟩)) hS ?_
            refine wpAnyH_take (i := 7) (v := .int .i64 y) rfl (by kernel_rfl) (by kernel_rfl) (by kernel_rfl) (fun _ _ _ h => h) (shYields_cell (by rfl) 3 _ rfl _ (fun w' hw => by have hc := hw.2; go_simp)) hS ?_
            refine wpAnyH_all (rs := [8, 12]) (by kernel_rfl) (by decide) ?_
            intro i' hi'
            simp only [List.mem_cons, List.not_mem_nil, or_false] at hi'
            rcases hi' with rfl | rfl
            · skip
              refine shOp_go rfl (by rfl) ?_
              unfold Oper.wp
              go_simp
              refine (HRD.out _).mono ?_
              rintro e w3 ⟨rfl, hb3⟩
              have hS3 : w3.cell? ⟨b1, o1 + i, none⟩ = some (.int .i64 x) ∧ w3.cell? ⟨b2, o2 + i, none⟩ = some (.int .i64 y) := ⟨cell_below hS.1 hb3, cell_below hS.2 hb3⟩
              replace hB := below_step hB hB.size hb3
              replace hown := ownsRow_below hown hb3
              replace hc1 : b1 < w3.heap.size := Nat.lt_of_lt_of_le hc1 hb3.size
              replace hc2 : b2 < w3.heap.size := Nat.lt_of_lt_of_le hc2 hb3.size
              clear hb3 HRD hS
              have hS := hS3
              clear hS3
              try refine ⟨hS, ?_⟩
              refine wpAnyH_take (i := 9) (v := .tuple #[.agg #[.int .i64 x, .int .i64 y], .bool true]) rfl (by kernel_rfl) (by kernel_rfl) (by kernel_rfl) (fun _ _ _ h => h) (Yields.yieldsIf (Or.inl ⟨by rfl, fun w => by go_simp⟩)) hS ?_
              refine wpAnyH_take (i := 10) (v := .agg #[.int .i64 x, .int .i64 y]) rfl (by kernel_rfl) (by kernel_rfl) (by kernel_rfl) (fun _ _ _ h => h) (Yields.yieldsIf (Or.inl ⟨by rfl, fun w => by go_simp⟩)) hS ?_
              refine wpAnyH_take (i := 11) (v := .bool true) rfl (by kernel_rfl) (by kernel_rfl) (by kernel_rfl) (fun _ _ _ h => h) (Yields.yieldsIf (Or.inl ⟨by rfl, fun w => by go_simp⟩)) hS ?_
              refine wpAnyH_all (rs := [12]) (by kernel_rfl) (by decide) ?_
              intro i' hi'
              simp only [List.mem_cons, List.not_mem_nil, or_false] at hi'
              subst hi'
              refine shOp_go rfl (by rfl) ?_
              unfold Oper.wp
              go_simp
              have kN := HeldB.new w3 36 #[.int .i64 0, .int .i64 0]
              have hS4 : (w3.alloc (.cells #[.int .i64 0, .int .i64 0] 36)).cell? ⟨b1, o1 + i, none⟩ = some (.int .i64 x) ∧ (w3.alloc (.cells #[.int .i64 0, .int .i64 0] 36)).cell? ⟨b2, o2 + i, none⟩ = some (.int .i64 y) := ⟨cell_below hS.1 (below_alloc _ _), cell_below hS.2 (below_alloc _ _)⟩
              have hgl : w.heap.size ≤ w3.heap.size := hB.size
              replace hB := hB.alloc hB.size (.cells #[.int .i64 0, .int .i64 0] 36)
              have hownA := hown
              replace hown := ownsRow_below hown (below_alloc w3 (.cells #[.int .i64 0, .int .i64 0] 36))
              have hap : Apart ko (some ⟨w3.heap.size, 0, none⟩) := fun a b ha hb' => by cases hb'; exact Nat.ne_of_lt (owns_lt hownA a ha).2
              clear hS hownA
              have hS := hS4
              clear hS4
              generalize w3.alloc (.cells #[.int .i64 0, .int .i64 0] 36) = wA at *
              generalize w3.heap.size = gA at *
              replace hc1 : b1 ≠ gA := by omega
              replace hc2 : b2 ≠ gA := by omega
              try refine ⟨hS, ?_⟩
              refine wpAnyH_all (rs := [13]) (by kernel_rfl) (by decide) ?_
              intro i' hi'
              simp only [List.mem_cons, List.not_mem_nil, or_false] at hi'
              subst hi'
              have c0 := kN.cell 0
              have c1 := kN.cell 1
              have f0 := kN.frozen 0
              have f1 := kN.frozen 1
              replace kN : HeldB ((wA.setCell ⟨gA, 0, none⟩ (.int .i64 x)).setCell ⟨gA, 1, none⟩ (.int .i64 y)) gA 36 #[.int .i64 x, .int .i64 y] := (kN.set 0 _).set 1 _
              refine shOp_go rfl (by rfl) ?_
              unfold Oper.wp
              go_simp
              replace hB := (hB.setCell (p := ⟨gA, 0, none⟩) hgl (.int .i64 x)).setCell (p := ⟨gA, 1, none⟩) hgl (.int .i64 y)
              replace hown := owns_cell (owns_cell hown hap (.int .i64 x) 0) hap (.int .i64 y) 1
              have hS5 : ((wA.setCell ⟨gA, 0, none⟩ (.int .i64 x)).setCell ⟨gA, 1, none⟩ (.int .i64 y)).cell? ⟨b1, o1 + i, none⟩ = some (.int .i64 x) ∧ ((wA.setCell ⟨gA, 0, none⟩ (.int .i64 x)).setCell ⟨gA, 1, none⟩ (.int .i64 y)).cell? ⟨b2, o2 + i, none⟩ = some (.int .i64 y) := ⟨kind_cell (kind_cell hS.1 hc1 _) hc1 _, kind_cell (kind_cell hS.2 hc2 _) hc2 _⟩
              clear hS c0 c1 f0 f1
              have hS := hS5
              clear hS5
              generalize (wA.setCell ⟨gA, 0, none⟩ (.int .i64 x)).setCell ⟨gA, 1, none⟩ (.int .i64 y) = wS at *
              try refine ⟨hS, ?_⟩
              refine wpAnyH_take (i := 14) (v := .bool true) rfl (by kernel_rfl) (by kernel_rfl) (by kernel_rfl) (fun _ _ _ h => h) (Yields.yieldsIf (Or.inl ⟨by rfl, fun w => by go_simp⟩)) hS ?_
              refine wpAnyH_done (by kernel_rfl) ?_ _
              have hBs := hB.size
              go_wp2_with (first
                | (refine wpList_load_row rfl 36 _ rfl gA rfl 36 #[.int .i64 x, .int .i64 y] (0, 0) _ kN Try.underlying36 rfl (by kernel_rfl) ?_)
                | (refine wpList_build1 rfl _ 68 _ rfl #[.int .i64 x, .int .i64 y, .int .i64 v] rfl (build_kd x y v _) ?_)
                | (at_builtin; refine wpList_pushK _ rfl _ _ 51 rfl w.heap.size 68 ik (.agg #[.int .i64 0, .int .i64 0, .int .i64 0]) 3 24 Try.underlying51 hki hkz hk1 hk2 rfl (by decide) ko i kd _ rfl (ownsRow_below hown (below_alloc _ _)) [.int .i64 x, .int .i64 y, .int .i64 v] 1 _ 0 1 rfl (by decide) rfl (cells_new _ #[.int .i64 x, .int .i64 y, .int .i64 v] _) (by simp [Value.oneCell']) (by unfold maxLen; omega) (by omega) (by simp; omega) ?_; intro ko2 kd2 w7 hown7 hg7 hnew7))
              have hB7 : Below w.heap.size w w7 := below_push hB hBs hg7 (fun b hb' => (owns_lt hown b hb').1)
              clear hg7 hnew7 hown hB kN hS hap
              go_roundw
              case rel => exact ⟨i + 1, ko2, kd2, by omega, by go_num, rfl, by rw [HKC.out]; exact hown7, HALL2.out, hB7⟩
              case measure => simp [intOf]; omega
            · skip
              refine shOp_go rfl (by rfl) ?_
              unfold Oper.wp
              go_simp
              have kN := HeldB.new w2 36 #[.int .i64 0, .int .i64 0]
              have hS4 : (w2.alloc (.cells #[.int .i64 0, .int .i64 0] 36)).cell? ⟨b1, o1 + i, none⟩ = some (.int .i64 x) ∧ (w2.alloc (.cells #[.int .i64 0, .int .i64 0] 36)).cell? ⟨b2, o2 + i, none⟩ = some (.int .i64 y) := ⟨cell_below hS.1 (below_alloc _ _), cell_below hS.2 (below_alloc _ _)⟩
              have hgl : w.heap.size ≤ w2.heap.size := hB.size
              replace hB := hB.alloc hB.size (.cells #[.int .i64 0, .int .i64 0] 36)
              have hownA := hown
              replace hown := ownsRow_below hown (below_alloc w2 (.cells #[.int .i64 0, .int .i64 0] 36))
              have hap : Apart ko (some ⟨w2.heap.size, 0, none⟩) := fun a b ha hb' => by cases hb'; exact Nat.ne_of_lt (owns_lt hownA a ha).2
              clear hS hownA
              have hS := hS4
              clear hS4
              generalize w2.alloc (.cells #[.int .i64 0, .int .i64 0] 36) = wA at *
              generalize w2.heap.size = gA at *
              replace hc1 : b1 ≠ gA := by omega
              replace hc2 : b2 ≠ gA := by omega
              try refine ⟨hS, ?_⟩
              refine wpAnyH_all (rs := [8]) (by kernel_rfl) (by decide) ?_
              intro i' hi'
              simp only [List.mem_cons, List.not_mem_nil, or_false] at hi'
              subst hi'
              refine shOp_go rfl (by rfl) ?_
              unfold Oper.wp
              go_simp
              refine (HRD.out _).mono ?_
              rintro e w3 ⟨rfl, hb3⟩
              have hS3 : w3.cell? ⟨b1, o1 + i, none⟩ = some (.int .i64 x) ∧ w3.cell? ⟨b2, o2 + i, none⟩ = some (.int .i64 y) := ⟨cell_below hS.1 hb3, cell_below hS.2 hb3⟩
              replace hB := below_step hB hB.size hb3
              replace hown := ownsRow_below hown hb3
              replace kN := kN.below hb3
              clear hb3 HRD hS
              have hS := hS3
              clear hS3
              try refine ⟨hS, ?_⟩
              refine wpAnyH_take (i := 9) (v := .tuple #[.agg #[.int .i64 x, .int .i64 y], .bool true]) rfl (by kernel_rfl) (by kernel_rfl) (by kernel_rfl) (fun _ _ _ h => h) (Yields.yieldsIf (Or.inl ⟨by rfl, fun w => by go_simp⟩)) hS ?_
              refine wpAnyH_take (i := 10) (v := .agg #[.int .i64 x, .int .i64 y]) rfl (by kernel_rfl) (by kernel_rfl) (by kernel_rfl) (fun _ _ _ h => h) (Yields.yieldsIf (Or.inl ⟨by rfl, fun w => by go_simp⟩)) hS ?_
              refine wpAnyH_take (i := 11) (v := .bool true) rfl (by kernel_rfl) (by kernel_rfl) (by kernel_rfl) (fun _ _ _ h => h) (Yields.yieldsIf (Or.inl ⟨by rfl, fun w => by go_simp⟩)) hS ?_
              refine wpAnyH_all (rs := [13]) (by kernel_rfl) (by decide) ?_
              intro i' hi'
              simp only [List.mem_cons, List.not_mem_nil, or_false] at hi'
              subst hi'
              have c0 := kN.cell 0
              have c1 := kN.cell 1
              have f0 := kN.frozen 0
              have f1 := kN.frozen 1
              replace kN : HeldB ((w3.setCell ⟨gA, 0, none⟩ (.int .i64 x)).setCell ⟨gA, 1, none⟩ (.int .i64 y)) gA 36 #[.int .i64 x, .int .i64 y] := (kN.set 0 _).set 1 _
              refine shOp_go rfl (by rfl) ?_
              unfold Oper.wp
              go_simp
              replace hB := (hB.setCell (p := ⟨gA, 0, none⟩) hgl (.int .i64 x)).setCell (p := ⟨gA, 1, none⟩) hgl (.int .i64 y)
              replace hown := owns_cell (owns_cell hown hap (.int .i64 x) 0) hap (.int .i64 y) 1
              have hS5 : ((w3.setCell ⟨gA, 0, none⟩ (.int .i64 x)).setCell ⟨gA, 1, none⟩ (.int .i64 y)).cell? ⟨b1, o1 + i, none⟩ = some (.int .i64 x) ∧ ((w3.setCell ⟨gA, 0, none⟩ (.int .i64 x)).setCell ⟨gA, 1, none⟩ (.int .i64 y)).cell? ⟨b2, o2 + i, none⟩ = some (.int .i64 y) := ⟨kind_cell (kind_cell hS.1 hc1 _) hc1 _, kind_cell (kind_cell hS.2 hc2 _) hc2 _⟩
              clear hS c0 c1 f0 f1
              have hS := hS5
              clear hS5
              generalize (w3.setCell ⟨gA, 0, none⟩ (.int .i64 x)).setCell ⟨gA, 1, none⟩ (.int .i64 y) = wS at *
              try refine ⟨hS, ?_⟩
              refine wpAnyH_take (i := 14) (v := .bool true) rfl (by kernel_rfl) (by kernel_rfl) (by kernel_rfl) (fun _ _ _ h => h) (Yields.yieldsIf (Or.inl ⟨by rfl, fun w => by go_simp⟩)) hS ?_
              refine wpAnyH_done (by kernel_rfl) ?_ _
              have hBs := hB.size
              go_wp2_with (first
                | (refine wpList_load_row rfl 36 _ rfl gA rfl 36 #[.int .i64 x, .int .i64 y] (0, 0) _ kN Try.underlying36 rfl (by kernel_rfl) ?_)
                | (refine wpList_build1 rfl _ 68 _ rfl #[.int .i64 x, .int .i64 y, .int .i64 v] rfl (build_kd x y v _) ?_)
                | (at_builtin; refine wpList_pushK _ rfl _ _ 51 rfl w.heap.size 68 ik (.agg #[.int .i64 0, .int .i64 0, .int .i64 0]) 3 24 Try.underlying51 hki hkz hk1 hk2 rfl (by decide) ko i kd _ rfl (ownsRow_below hown (below_alloc _ _)) [.int .i64 x, .int .i64 y, .int .i64 v] 1 _ 0 1 rfl (by decide) rfl (cells_new _ #[.int .i64 x, .int .i64 y, .int .i64 v] _) (by simp [Value.oneCell']) (by unfold maxLen; omega) (by omega) (by simp; omega) ?_; intro ko2 kd2 w7 hown7 hg7 hnew7))
              have hB7 : Below w.heap.size w w7 := below_push hB hBs hg7 (fun b hb' => (owns_lt hown b hb').1)
              clear hg7 hnew7 hown hB kN hS hap
              go_roundw
              case rel => exact ⟨i + 1, ko2, kd2, by omega, by go_num, rfl, by rw [HKC.out]; exact hown7, HALL2.out, hB7⟩
              case measure => simp [intOf]; omega
          · have HFIN := Lib.hid (HNO.out i hlt (by rw [HB1.out]; exact decide_eq_false hvb))
            clear HB1
            by_cases hv0 : v < 0
            · have hvd1 : decide (v < 0) = true := decide_eq_true hv0
              have HRD := Lib.hid (fun W => shRead_yes hxy W)
              go_wp2
              refine wp_region_held (S := fun W => W.cell? ⟨b1, o1 + i, none⟩ = some (.int .i64 x) ∧ W.cell? ⟨b2, o2 + i, none⟩ = some (.int .i64 y)) (by kernel_rfl) ?_
              have hS : ({ wr with drawn := wr.drawn + 1 } : World).cell? ⟨b1, o1 + i, none⟩ = some (.int .i64 x) ∧ ({ wr with drawn := wr.drawn + 1 } : World).cell? ⟨b2, o2 + i, none⟩ = some (.int .i64 y) := ⟨d1, d2⟩
              replace hB : Below w.heap.size w ({ wr with drawn := wr.drawn + 1 } : World) := hB.trans (below_drewN _ _ 1)
              replace hown : ({ wr with drawn := wr.drawn + 1 } : World).ownsRow w.heap.size 68 3 (.slice ko i kd) i (kdC (kindsN ws hs vs i)) := hown
              have hc1 : b1 < ({ wr with drawn := wr.drawn + 1 } : World).heap.size := World.block_lt_of_cell? _ _ d1
              have hc2 : b2 < ({ wr with drawn := wr.drawn + 1 } : World).heap.size := World.block_lt_of_cell? _ _ d2
              clear d1 d2 d3
              generalize ({ wr with drawn := wr.drawn + 1 } : World) = w2 at *
              change Go.wpAnyH Try.prog Region.Mode.any _ _ _ 15 (Array.replicate 15 false) _ _
              refine wpAnyH_take (i := 0) (v := .slice (some ⟨b1, o1, none⟩) N ka) rfl (by kernel_rfl) (by kernel_rfl) (by kernel_rfl) (fun _ _ _ h => h) (Yields.yieldsIf (Or.inl ⟨by rfl, fun w => by go_simp⟩)) hS ?_
              refine wpAnyH_take (i := 1) (v := .int .i64 (i : Int)) rfl (by kernel_rfl) (by kernel_rfl) (by kernel_rfl) (fun _ _ _ h => h) (Yields.yieldsIf (Or.inl ⟨by rfl, fun w => by go_simp⟩)) hS ?_
              refine wpAnyH_take (i := 2) (v := .pointer (some ⟨b1, o1 + i, none⟩)) rfl (by kernel_rfl) (by kernel_rfl) (by kernel_rfl) (fun _ _ _ h => h) (Yields.yieldsIf (Or.inl ⟨by rfl, fun w => by go_simp⟩)) hS ?_
              refine wpAnyH_take (i := 3) (v := .int .i64 x) rfl (by kernel_rfl) (by kernel_rfl) (by kernel_rfl) (fun _ _ _ h => h) (shYields_cell (by rfl) 3 _ rfl _ (fun w' hw => by have hc := hw.1; go_simp)) hS ?_
              refine wpAnyH_take (i := 4) (v := .slice (some ⟨b2, o2, none⟩) N kb) rfl (by kernel_rfl) (by kernel_rfl) (by kernel_rfl) (fun _ _ _ h => h) (Yields.yieldsIf (Or.inl ⟨by rfl, fun w => by go_simp⟩)) hS ?_
              refine wpAnyH_take (i := 5) (v := .int .i64 (i : Int)) rfl (by kernel_rfl) (by kernel_rfl) (by kernel_rfl) (fun _ _ _ h => h) (Yields.yieldsIf (Or.inl ⟨by rfl, fun w => by go_simp⟩)) hS ?_
              refine wpAnyH_take (i := 6) (v := .pointer (some ⟨b2, o2 + i, none⟩)) rfl (by kernel_rfl) (by kernel_rfl) (by kernel_rfl) (fun _ _ _ h => h) (Yields.yieldsIf (Or.inl ⟨by rfl, fun w => by go_simp⟩)) hS ?_
              refine wpAnyH_take (i := 7) (v := .int .i64 y) rfl (by kernel_rfl) (by kernel_rfl) (by kernel_rfl) (fun _ _ _ h => h) (shYields_cell (by rfl) 3 _ rfl _ (fun w' hw => by have hc := hw.2; go_simp)) hS ?_
              refine wpAnyH_all (rs := [8, 12]) (by kernel_rfl) (by decide) ?_
              intro i' hi'
              simp only [List.mem_cons, List.not_mem_nil, or_false] at hi'
              rcases hi' with rfl | rfl
              · skip
                refine shOp_go rfl (by rfl) ?_
                unfold Oper.wp
                go_simp
                refine (HRD.out _).mono ?_
                rintro e w3 ⟨rfl, hb3⟩
                have hS3 : w3.cell? ⟨b1, o1 + i, none⟩ = some (.int .i64 x) ∧ w3.cell? ⟨b2, o2 + i, none⟩ = some (.int .i64 y) := ⟨cell_below hS.1 hb3, cell_below hS.2 hb3⟩
                replace hB := below_step hB hB.size hb3
                replace hown := ownsRow_below hown hb3
                replace hc1 : b1 < w3.heap.size := Nat.lt_of_lt_of_le hc1 hb3.size
                replace hc2 : b2 < w3.heap.size := Nat.lt_of_lt_of_le hc2 hb3.size
                clear hb3 HRD hS
                have hS := hS3
                clear hS3
                try refine ⟨hS, ?_⟩
                refine wpAnyH_take (i := 9) (v := .tuple #[.agg #[.int .i64 x, .int .i64 y], .bool true]) rfl (by kernel_rfl) (by kernel_rfl) (by kernel_rfl) (fun _ _ _ h => h) (Yields.yieldsIf (Or.inl ⟨by rfl, fun w => by go_simp⟩)) hS ?_
                refine wpAnyH_take (i := 10) (v := .agg #[.int .i64 x, .int .i64 y]) rfl (by kernel_rfl) (by kernel_rfl) (by kernel_rfl) (fun _ _ _ h => h) (Yields.yieldsIf (Or.inl ⟨by rfl, fun w => by go_simp⟩)) hS ?_
                refine wpAnyH_take (i := 11) (v := .bool true) rfl (by kernel_rfl) (by kernel_rfl) (by kernel_rfl) (fun _ _ _ h => h) (Yields.yieldsIf (Or.inl ⟨by rfl, fun w => by go_simp⟩)) hS ?_
                refine wpAnyH_all (rs := [12]) (by kernel_rfl) (by decide) ?_
                intro i' hi'
                simp only [List.mem_cons, List.not_mem_nil, or_false] at hi'
                subst hi'
                refine shOp_go rfl (by rfl) ?_
                unfold Oper.wp
                go_simp
                have kN := HeldB.new w3 36 #[.int .i64 0, .int .i64 0]
                have hS4 : (w3.alloc (.cells #[.int .i64 0, .int .i64 0] 36)).cell? ⟨b1, o1 + i, none⟩ = some (.int .i64 x) ∧ (w3.alloc (.cells #[.int .i64 0, .int .i64 0] 36)).cell? ⟨b2, o2 + i, none⟩ = some (.int .i64 y) := ⟨cell_below hS.1 (below_alloc _ _), cell_below hS.2 (below_alloc _ _)⟩
                have hgl : w.heap.size ≤ w3.heap.size := hB.size
                replace hB := hB.alloc hB.size (.cells #[.int .i64 0, .int .i64 0] 36)
                have hownA := hown
                replace hown := ownsRow_below hown (below_alloc w3 (.cells #[.int .i64 0, .int .i64 0] 36))
                have hap : Apart ko (some ⟨w3.heap.size, 0, none⟩) := fun a b ha hb' => by cases hb'; exact Nat.ne_of_lt (owns_lt hownA a ha).2
                clear hS hownA
                have hS := hS4
                clear hS4
                generalize w3.alloc (.cells #[.int .i64 0, .int .i64 0] 36) = wA at *
                generalize w3.heap.size = gA at *
                replace hc1 : b1 ≠ gA := by omega
                replace hc2 : b2 ≠ gA := by omega
                try refine ⟨hS, ?_⟩
                refine wpAnyH_all (rs := [13]) (by kernel_rfl) (by decide) ?_
                intro i' hi'
                simp only [List.mem_cons, List.not_mem_nil, or_false] at hi'
                subst hi'
                have c0 := kN.cell 0
                have c1 := kN.cell 1
                have f0 := kN.frozen 0
                have f1 := kN.frozen 1
                replace kN : HeldB ((wA.setCell ⟨gA, 0, none⟩ (.int .i64 x)).setCell ⟨gA, 1, none⟩ (.int .i64 y)) gA 36 #[.int .i64 x, .int .i64 y] := (kN.set 0 _).set 1 _
                refine shOp_go rfl (by rfl) ?_
                unfold Oper.wp
                go_simp
                replace hB := (hB.setCell (p := ⟨gA, 0, none⟩) hgl (.int .i64 x)).setCell (p := ⟨gA, 1, none⟩) hgl (.int .i64 y)
                replace hown := owns_cell (owns_cell hown hap (.int .i64 x) 0) hap (.int .i64 y) 1
                have hS5 : ((wA.setCell ⟨gA, 0, none⟩ (.int .i64 x)).setCell ⟨gA, 1, none⟩ (.int .i64 y)).cell? ⟨b1, o1 + i, none⟩ = some (.int .i64 x) ∧ ((wA.setCell ⟨gA, 0, none⟩ (.int .i64 x)).setCell ⟨gA, 1, none⟩ (.int .i64 y)).cell? ⟨b2, o2 + i, none⟩ = some (.int .i64 y) := ⟨kind_cell (kind_cell hS.1 hc1 _) hc1 _, kind_cell (kind_cell hS.2 hc2 _) hc2 _⟩
                clear hS c0 c1 f0 f1
                have hS := hS5
                clear hS5
                generalize (wA.setCell ⟨gA, 0, none⟩ (.int .i64 x)).setCell ⟨gA, 1, none⟩ (.int .i64 y) = wS at *
                try refine ⟨hS, ?_⟩
                refine wpAnyH_take (i := 14) (v := .bool true) rfl (by kernel_rfl) (by kernel_rfl) (by kernel_rfl) (fun _ _ _ h => h) (Yields.yieldsIf (Or.inl ⟨by rfl, fun w => by go_simp⟩)) hS ?_
                refine wpAnyH_done (by kernel_rfl) ?_ _
                go_wp2
                rw [HFIN.out]
                refine bodyPost_ret (v := .tuple #[.slice none 0 0, .bool false]) (by simp [results, Try.f42, go_sem]) rfl ⟨⟨fun h => (by cases h), fun _ => rfl⟩, hB⟩
              · skip
                refine shOp_go rfl (by rfl) ?_
                unfold Oper.wp
                go_simp
                have kN := HeldB.new w2 36 #[.int .i64 0, .int .i64 0]
                have hS4 : (w2.alloc (.cells #[.int .i64 0, .int .i64 0] 36)).cell? ⟨b1, o1 + i, none⟩ = some (.int .i64 x) ∧ (w2.alloc (.cells #[.int .i64 0, .int .i64 0] 36)).cell? ⟨b2, o2 + i, none⟩ = some (.int .i64 y) := ⟨cell_below hS.1 (below_alloc _ _), cell_below hS.2 (below_alloc _ _)⟩
                have hgl : w.heap.size ≤ w2.heap.size := hB.size
                replace hB := hB.alloc hB.size (.cells #[.int .i64 0, .int .i64 0] 36)
                have hownA := hown
                replace hown := ownsRow_below hown (below_alloc w2 (.cells #[.int .i64 0, .int .i64 0] 36))
                have hap : Apart ko (some ⟨w2.heap.size, 0, none⟩) := fun a b ha hb' => by cases hb'; exact Nat.ne_of_lt (owns_lt hownA a ha).2
                clear hS hownA
                have hS := hS4
                clear hS4
                generalize w2.alloc (.cells #[.int .i64 0, .int .i64 0] 36) = wA at *
                generalize w2.heap.size = gA at *
                replace hc1 : b1 ≠ gA := by omega
                replace hc2 : b2 ≠ gA := by omega
                try refine ⟨hS, ?_⟩
                refine wpAnyH_all (rs := [8]) (by kernel_rfl) (by decide) ?_
                intro i' hi'
                simp only [List.mem_cons, List.not_mem_nil, or_false] at hi'
                subst hi'
                refine shOp_go rfl (by rfl) ?_
                unfold Oper.wp
                go_simp
                refine (HRD.out _).mono ?_
                rintro e w3 ⟨rfl, hb3⟩
                have hS3 : w3.cell? ⟨b1, o1 + i, none⟩ = some (.int .i64 x) ∧ w3.cell? ⟨b2, o2 + i, none⟩ = some (.int .i64 y) := ⟨cell_below hS.1 hb3, cell_below hS.2 hb3⟩
                replace hB := below_step hB hB.size hb3
                replace hown := ownsRow_below hown hb3
                replace kN := kN.below hb3
                clear hb3 HRD hS
                have hS := hS3
                clear hS3
                try refine ⟨hS, ?_⟩
                refine wpAnyH_take (i := 9) (v := .tuple #[.agg #[.int .i64 x, .int .i64 y], .bool true]) rfl (by kernel_rfl) (by kernel_rfl) (by kernel_rfl) (fun _ _ _ h => h) (Yields.yieldsIf (Or.inl ⟨by rfl, fun w => by go_simp⟩)) hS ?_
                refine wpAnyH_take (i := 10) (v := .agg #[.int .i64 x, .int .i64 y]) rfl (by kernel_rfl) (by kernel_rfl) (by kernel_rfl) (fun _ _ _ h => h) (Yields.yieldsIf (Or.inl ⟨by rfl, fun w => by go_simp⟩)) hS ?_
                refine wpAnyH_take (i := 11) (v := .bool true) rfl (by kernel_rfl) (by kernel_rfl) (by kernel_rfl) (fun _ _ _ h => h) (Yields.yieldsIf (Or.inl ⟨by rfl, fun w => by go_simp⟩)) hS ?_
                refine wpAnyH_all (rs := [13]) (by kernel_rfl) (by decide) ?_
                intro i' hi'
                simp only [List.mem_cons, List.not_mem_nil, or_false] at hi'
                subst hi'
                have c0 := kN.cell 0
                have c1 := kN.cell 1
                have f0 := kN.frozen 0
                have f1 := kN.frozen 1
                replace kN : HeldB ((w3.setCell ⟨gA, 0, none⟩ (.int .i64 x)).setCell ⟨gA, 1, none⟩ (.int .i64 y)) gA 36 #[.int .i64 x, .int .i64 y] := (kN.set 0 _).set 1 _
                refine shOp_go rfl (by rfl) ?_
                unfold Oper.wp
                go_simp
                replace hB := (hB.setCell (p := ⟨gA, 0, none⟩) hgl (.int .i64 x)).setCell (p := ⟨gA, 1, none⟩) hgl (.int .i64 y)
                replace hown := owns_cell (owns_cell hown hap (.int .i64 x) 0) hap (.int .i64 y) 1
                have hS5 : ((w3.setCell ⟨gA, 0, none⟩ (.int .i64 x)).setCell ⟨gA, 1, none⟩ (.int .i64 y)).cell? ⟨b1, o1 + i, none⟩ = some (.int .i64 x) ∧ ((w3.setCell ⟨gA, 0, none⟩ (.int .i64 x)).setCell ⟨gA, 1, none⟩ (.int .i64 y)).cell? ⟨b2, o2 + i, none⟩ = some (.int .i64 y) := ⟨kind_cell (kind_cell hS.1 hc1 _) hc1 _, kind_cell (kind_cell hS.2 hc2 _) hc2 _⟩
                clear hS c0 c1 f0 f1
                have hS := hS5
                clear hS5
                generalize (w3.setCell ⟨gA, 0, none⟩ (.int .i64 x)).setCell ⟨gA, 1, none⟩ (.int .i64 y) = wS at *
                try refine ⟨hS, ?_⟩
                refine wpAnyH_take (i := 14) (v := .bool true) rfl (by kernel_rfl) (by kernel_rfl) (by kernel_rfl) (fun _ _ _ h => h) (Yields.yieldsIf (Or.inl ⟨by rfl, fun w => by go_simp⟩)) hS ?_
                refine wpAnyH_done (by kernel_rfl) ?_ _
                go_wp2
                rw [HFIN.out]
                refine bodyPost_ret (v := .tuple #[.slice none 0 0, .bool false]) (by simp [results, Try.f42, go_sem]) rfl ⟨⟨fun h => (by cases h), fun _ => rfl⟩, hB⟩
            · have hvd1 : decide (v < 0) = false := decide_eq_false hv0
              have hvd2 : decide ((99 : Int) < v) = true := decide_eq_true (by omega)
              have HRD := Lib.hid (fun W => shRead_yes hxy W)
              go_wp2
              refine wp_region_held (S := fun W => W.cell? ⟨b1, o1 + i, none⟩ = some (.int .i64 x) ∧ W.cell? ⟨b2, o2 + i, none⟩ = some (.int .i64 y)) (by kernel_rfl) ?_
              have hS : ({ wr with drawn := wr.drawn + 1 } : World).cell? ⟨b1, o1 + i, none⟩ = some (.int .i64 x) ∧ ({ wr with drawn := wr.drawn + 1 } : World).cell? ⟨b2, o2 + i, none⟩ = some (.int .i64 y) := ⟨d1, d2⟩
              replace hB : Below w.heap.size w ({ wr with drawn := wr.drawn + 1 } : World) := hB.trans (below_drewN _ _ 1)
              replace hown : ({ wr with drawn := wr.drawn + 1 } : World).ownsRow w.heap.size 68 3 (.slice ko i kd) i (kdC (kindsN ws hs vs i)) := hown
              have hc1 : b1 < ({ wr with drawn := wr.drawn + 1 } : World).heap.size := World.block_lt_of_cell? _ _ d1
              have hc2 : b2 < ({ wr with drawn := wr.drawn + 1 } : World).heap.size := World.block_lt_of_cell? _ _ d2
              clear d1 d2 d3
              generalize ({ wr with drawn := wr.drawn + 1 } : World) = w2 at *
              change Go.wpAnyH Try.prog Region.Mode.any _ _ _ 15 (Array.replicate 15 false) _ _
              refine wpAnyH_take (i := 0) (v := .slice (some ⟨b1, o1, none⟩) N ka) rfl (by kernel_rfl) (by kernel_rfl) (by kernel_rfl) (fun _ _ _ h => h) (Yields.yieldsIf (Or.inl ⟨by rfl, fun w => by go_simp⟩)) hS ?_
              refine wpAnyH_take (i := 1) (v := .int .i64 (i : Int)) rfl (by kernel_rfl) (by kernel_rfl) (by kernel_rfl) (fun _ _ _ h => h) (Yields.yieldsIf (Or.inl ⟨by rfl, fun w => by go_simp⟩)) hS ?_
              refine wpAnyH_take (i := 2) (v := .pointer (some ⟨b1, o1 + i, none⟩)) rfl (by kernel_rfl) (by kernel_rfl) (by kernel_rfl) (fun _ _ _ h => h) (Yields.yieldsIf (Or.inl ⟨by rfl, fun w => by go_simp⟩)) hS ?_
              refine wpAnyH_take (i := 3) (v := .int .i64 x) rfl (by kernel_rfl) (by kernel_rfl) (by kernel_rfl) (fun _ _ _ h => h) (shYields_cell (by rfl) 3 _ rfl _ (fun w' hw => by have hc := hw.1; go_simp)) hS ?_
              refine wpAnyH_take (i := 4) (v := .slice (some ⟨b2, o2, none⟩) N kb) rfl (by kernel_rfl) (by kernel_rfl) (by kernel_rfl) (fun _ _ _ h => h) (Yields.yieldsIf (Or.inl ⟨by rfl, fun w => by go_simp⟩)) hS ?_
              refine wpAnyH_take (i := 5) (v := .int .i64 (i : Int)) rfl (by kernel_rfl) (by kernel_rfl) (by kernel_rfl) (fun _ _ _ h => h) (Yields.yieldsIf (Or.inl ⟨by rfl, fun w => by go_simp⟩)) hS ?_
              refine wpAnyH_take (i := 6) (v := .pointer (some ⟨b2, o2 + i, none⟩)) rfl (by kernel_rfl) (by kernel_rfl) (by kernel_rfl) (fun _ _ _ h => h) (Yields.yieldsIf (Or.inl ⟨by rfl, fun w => by go_simp⟩)) hS ?_
              refine wpAnyH_take (i := 7) (v := .int .i64 y) rfl (by kernel_rfl) (by kernel_rfl) (by kernel_rfl) (fun _ _ _ h => h) (shYields_cell (by rfl) 3 _ rfl _ (fun w' hw => by have hc := hw.2; go_simp)) hS ?_
              refine wpAnyH_all (rs := [8, 12]) (by kernel_rfl) (by decide) ?_
              intro i' hi'
              simp only [List.mem_cons, List.not_mem_nil, or_false] at hi'
              rcases hi' with rfl | rfl
              · skip
                refine shOp_go rfl (by rfl) ?_
                unfold Oper.wp
                go_simp
                refine (HRD.out _).mono ?_
                rintro e w3 ⟨rfl, hb3⟩
                have hS3 : w3.cell? ⟨b1, o1 + i, none⟩ = some (.int .i64 x) ∧ w3.cell? ⟨b2, o2 + i, none⟩ = some (.int .i64 y) := ⟨cell_below hS.1 hb3, cell_below hS.2 hb3⟩
                replace hB := below_step hB hB.size hb3
                replace hown := ownsRow_below hown hb3
                replace hc1 : b1 < w3.heap.size := Nat.lt_of_lt_of_le hc1 hb3.size
                replace hc2 : b2 < w3.heap.size := Nat.lt_of_lt_of_le hc2 hb3.size
                clear hb3 HRD hS
                have hS := hS3
                clear hS3
                try refine ⟨hS, ?_⟩
                refine wpAnyH_take (i := 9) (v := .tuple #[.agg #[.int .i64 x, .int .i64 y], .bool true]) rfl (by kernel_rfl) (by kernel_rfl) (by kernel_rfl) (fun _ _ _ h => h) (Yields.yieldsIf (Or.inl ⟨by rfl, fun w => by go_simp⟩)) hS ?_
                refine wpAnyH_take (i := 10) (v := .agg #[.int .i64 x, .int .i64 y]) rfl (by kernel_rfl) (by kernel_rfl) (by kernel_rfl) (fun _ _ _ h => h) (Yields.yieldsIf (Or.inl ⟨by rfl, fun w => by go_simp⟩)) hS ?_
                refine wpAnyH_take (i := 11) (v := .bool true) rfl (by kernel_rfl) (by kernel_rfl) (by kernel_rfl) (fun _ _ _ h => h) (Yields.yieldsIf (Or.inl ⟨by rfl, fun w => by go_simp⟩)) hS ?_
                refine wpAnyH_all (rs := [12]) (by kernel_rfl) (by decide) ?_
                intro i' hi'
                simp only [List.mem_cons, List.not_mem_nil, or_false] at hi'
                subst hi'
                refine shOp_go rfl (by rfl) ?_
                unfold Oper.wp
                go_simp
                have kN := HeldB.new w3 36 #[.int .i64 0, .int .i64 0]
                have hS4 : (w3.alloc (.cells #[.int .i64 0, .int .i64 0] 36)).cell? ⟨b1, o1 + i, none⟩ = some (.int .i64 x) ∧ (w3.alloc (.cells #[.int .i64 0, .int .i64 0] 36)).cell? ⟨b2, o2 + i, none⟩ = some (.int .i64 y) := ⟨cell_below hS.1 (below_alloc _ _), cell_below hS.2 (below_alloc _ _)⟩
                have hgl : w.heap.size ≤ w3.heap.size := hB.size
                replace hB := hB.alloc hB.size (.cells #[.int .i64 0, .int .i64 0] 36)
                have hownA := hown
                replace hown := ownsRow_below hown (below_alloc w3 (.cells #[.int .i64 0, .int .i64 0] 36))
                have hap : Apart ko (some ⟨w3.heap.size, 0, none⟩) := fun a b ha hb' => by cases hb'; exact Nat.ne_of_lt (owns_lt hownA a ha).2
                clear hS hownA
                have hS := hS4
                clear hS4
                generalize w3.alloc (.cells #[.int .i64 0, .int .i64 0] 36) = wA at *
                generalize w3.heap.size = gA at *
                replace hc1 : b1 ≠ gA := by omega
                replace hc2 : b2 ≠ gA := by omega
                try refine ⟨hS, ?_⟩
                refine wpAnyH_all (rs := [13]) (by kernel_rfl) (by decide) ?_
                intro i' hi'
                simp only [List.mem_cons, List.not_mem_nil, or_false] at hi'
                subst hi'
                have c0 := kN.cell 0
                have c1 := kN.cell 1
                have f0 := kN.frozen 0
                have f1 := kN.frozen 1
                replace kN : HeldB ((wA.setCell ⟨gA, 0, none⟩ (.int .i64 x)).setCell ⟨gA, 1, none⟩ (.int .i64 y)) gA 36 #[.int .i64 x, .int .i64 y] := (kN.set 0 _).set 1 _
                refine shOp_go rfl (by rfl) ?_
                unfold Oper.wp
                go_simp
                replace hB := (hB.setCell (p := ⟨gA, 0, none⟩) hgl (.int .i64 x)).setCell (p := ⟨gA, 1, none⟩) hgl (.int .i64 y)
                replace hown := owns_cell (owns_cell hown hap (.int .i64 x) 0) hap (.int .i64 y) 1
                have hS5 : ((wA.setCell ⟨gA, 0, none⟩ (.int .i64 x)).setCell ⟨gA, 1, none⟩ (.int .i64 y)).cell? ⟨b1, o1 + i, none⟩ = some (.int .i64 x) ∧ ((wA.setCell ⟨gA, 0, none⟩ (.int .i64 x)).setCell ⟨gA, 1, none⟩ (.int .i64 y)).cell? ⟨b2, o2 + i, none⟩ = some (.int .i64 y) := ⟨kind_cell (kind_cell hS.1 hc1 _) hc1 _, kind_cell (kind_cell hS.2 hc2 _) hc2 _⟩
                clear hS c0 c1 f0 f1
                have hS := hS5
                clear hS5
                generalize (wA.setCell ⟨gA, 0, none⟩ (.int .i64 x)).setCell ⟨gA, 1, none⟩ (.int .i64 y) = wS at *
                try refine ⟨hS, ?_⟩
                refine wpAnyH_take (i := 14) (v := .bool true) rfl (by kernel_rfl) (by kernel_rfl) (by kernel_rfl) (fun _ _ _ h => h) (Yields.yieldsIf (Or.inl ⟨by rfl, fun w => by go_simp⟩)) hS ?_
                refine wpAnyH_done (by kernel_rfl) ?_ _
                go_wp2
                rw [HFIN.out]
                refine bodyPost_ret (v := .tuple #[.slice none 0 0, .bool false]) (by simp [results, Try.f42, go_sem]) rfl ⟨⟨fun h => (by cases h), fun _ => rfl⟩, hB⟩
              · skip
                refine shOp_go rfl (by rfl) ?_
                unfold Oper.wp
                go_simp
                have kN := HeldB.new w2 36 #[.int .i64 0, .int .i64 0]
                have hS4 : (w2.alloc (.cells #[.int .i64 0, .int .i64 0] 36)).cell? ⟨b1, o1 + i, none⟩ = some (.int .i64 x) ∧ (w2.alloc (.cells #[.int .i64 0, .int .i64 0] 36)).cell? ⟨b2, o2 + i, none⟩ = some (.int .i64 y) := ⟨cell_below hS.1 (below_alloc _ _), cell_below hS.2 (below_alloc _ _)⟩
                have hgl : w.heap.size ≤ w2.heap.size := hB.size
                replace hB := hB.alloc hB.size (.cells #[.int .i64 0, .int .i64 0] 36)
                have hownA := hown
                replace hown := ownsRow_below hown (below_alloc w2 (.cells #[.int .i64 0, .int .i64 0] 36))
                have hap : Apart ko (some ⟨w2.heap.size, 0, none⟩) := fun a b ha hb' => by cases hb'; exact Nat.ne_of_lt (owns_lt hownA a ha).2
                clear hS hownA
                have hS := hS4
                clear hS4
                generalize w2.alloc (.cells #[.int .i64 0, .int .i64 0] 36) = wA at *
                generalize w2.heap.size = gA at *
                replace hc1 : b1 ≠ gA := by omega
                replace hc2 : b2 ≠ gA := by omega
                try refine ⟨hS, ?_⟩
                refine wpAnyH_all (rs := [8]) (by kernel_rfl) (by decide) ?_
                intro i' hi'
                simp only [List.mem_cons, List.not_mem_nil, or_false] at hi'
                subst hi'
                refine shOp_go rfl (by rfl) ?_
                unfold Oper.wp
                go_simp
                refine (HRD.out _).mono ?_
                rintro e w3 ⟨rfl, hb3⟩
                have hS3 : w3.cell? ⟨b1, o1 + i, none⟩ = some (.int .i64 x) ∧ w3.cell? ⟨b2, o2 + i, none⟩ = some (.int .i64 y) := ⟨cell_below hS.1 hb3, cell_below hS.2 hb3⟩
                replace hB := below_step hB hB.size hb3
                replace hown := ownsRow_below hown hb3
                replace kN := kN.below hb3
                clear hb3 HRD hS
                have hS := hS3
                clear hS3
                try refine ⟨hS, ?_⟩
                refine wpAnyH_take (i := 9) (v := .tuple #[.agg #[.int .i64 x, .int .i64 y], .bool true]) rfl (by kernel_rfl) (by kernel_rfl) (by kernel_rfl) (fun _ _ _ h => h) (Yields.yieldsIf (Or.inl ⟨by rfl, fun w => by go_simp⟩)) hS ?_
                refine wpAnyH_take (i := 10) (v := .agg #[.int .i64 x, .int .i64 y]) rfl (by kernel_rfl) (by kernel_rfl) (by kernel_rfl) (fun _ _ _ h => h) (Yields.yieldsIf (Or.inl ⟨by rfl, fun w => by go_simp⟩)) hS ?_
                refine wpAnyH_take (i := 11) (v := .bool true) rfl (by kernel_rfl) (by kernel_rfl) (by kernel_rfl) (fun _ _ _ h => h) (Yields.yieldsIf (Or.inl ⟨by rfl, fun w => by go_simp⟩)) hS ?_
                refine wpAnyH_all (rs := [13]) (by kernel_rfl) (by decide) ?_
                intro i' hi'
                simp only [List.mem_cons, List.not_mem_nil, or_false] at hi'
                subst hi'
                have c0 := kN.cell 0
                have c1 := kN.cell 1
                have f0 := kN.frozen 0
                have f1 := kN.frozen 1
                replace kN : HeldB ((w3.setCell ⟨gA, 0, none⟩ (.int .i64 x)).setCell ⟨gA, 1, none⟩ (.int .i64 y)) gA 36 #[.int .i64 x, .int .i64 y] := (kN.set 0 _).set 1 _
                refine shOp_go rfl (by rfl) ?_
                unfold Oper.wp
                go_simp
                replace hB := (hB.setCell (p := ⟨gA, 0, none⟩) hgl (.int .i64 x)).setCell (p := ⟨gA, 1, none⟩) hgl (.int .i64 y)
                replace hown := owns_cell (owns_cell hown hap (.int .i64 x) 0) hap (.int .i64 y) 1
                have hS5 : ((w3.setCell ⟨gA, 0, none⟩ (.int .i64 x)).setCell ⟨gA, 1, none⟩ (.int .i64 y)).cell? ⟨b1, o1 + i, none⟩ = some (.int .i64 x) ∧ ((w3.setCell ⟨gA, 0, none⟩ (.int .i64 x)).setCell ⟨gA, 1, none⟩ (.int .i64 y)).cell? ⟨b2, o2 + i, none⟩ = some (.int .i64 y) := ⟨kind_cell (kind_cell hS.1 hc1 _) hc1 _, kind_cell (kind_cell hS.2 hc2 _) hc2 _⟩
                clear hS c0 c1 f0 f1
                have hS := hS5
                clear hS5
                generalize (w3.setCell ⟨gA, 0, none⟩ (.int .i64 x)).setCell ⟨gA, 1, none⟩ (.int .i64 y) = wS at *
                try refine ⟨hS, ?_⟩
                refine wpAnyH_take (i := 14) (v := .bool true) rfl (by kernel_rfl) (by kernel_rfl) (by kernel_rfl) (fun _ _ _ h => h) (Yields.yieldsIf (Or.inl ⟨by rfl, fun w => by go_simp⟩)) hS ?_
                refine wpAnyH_done (by kernel_rfl) ?_ _
                go_wp2
                rw [HFIN.out]
                refine bodyPost_ret (v := .tuple #[.slice none 0 0, .bool false]) (by simp [results, Try.f42, go_sem]) rfl ⟨⟨fun h => (by cases h), fun _ => rfl⟩, hB⟩
      · have hli : decide ((i : Int) < (N : Int)) = false := by rw [decide_eq_false_iff_not]; omega
        obtain rfl : i = N := by omega
        have HFIN := Lib.hid (HYES.out HALL.out)
        go_wp2
        rw [HFIN.out]
        exact bodyPost_ret (v := .tuple #[.slice ko i kd, .bool true]) (by simp [results, Try.f42, go_sem]) rfl ⟨⟨fun _ => ⟨ko, kd, rfl, hown⟩, fun h => (by cases h)⟩, hB⟩
  · have HFIN := Lib.hid (show kindsB ws hs vs = false by unfold kindsB; rw [HL0.out, decide_eq_false hl, Bool.false_and])
    clear HL0 ca cb cc
    have fin : ∀ (p q r s : Bool), decide ((ws.length : Int) < 1) = p → decide ((4 : Int) < (ws.length : Int)) = q → ((hs.length : Int) != (ws.length : Int)) = r → ((vs.length : Int) != (ws.length : Int)) = s → (hs.length != ws.length) = r → (vs.length != ws.length) = s → Calls Try.prog 42 #[.slice ao ws.length ka, .slice bo hs.length kb, .slice co vs.length kc] w fun e w' => KindsRet w.heap.size ws.length (kdC (kindsN ws hs vs ws.length)) (kindsB ws hs vs) e w' ∧ Below w.heap.size w w' := by
      intro p q r s e1 e2 e3 e4 e5 e6
      have hor : p = true ∨ q = true ∨ r = true ∨ s = true := by
        rw [← e1, ← e2, ← e5, ← e6, decide_eq_true_eq, decide_eq_true_eq, bne_iff_ne, bne_iff_ne]
        omega
      rw [HFIN.out]
      clear HFIN hl hwl
      generalize kdC (kindsN ws hs vs ws.length) = C at *
      cases p <;> cases q <;> cases r <;> cases s <;> first
        | (exfalso; simp at hor; done)
        | (clear hor
           go_enter Try.func42, Try.ntmps42
           go_wp2
           exact bodyPost_ret (v := .tuple #[.slice none 0 0, .bool false]) (by simp [results, Try.f42, go_sem]) rfl ⟨⟨fun h => (by cases h), fun _ => rfl⟩, Below.refl _ _⟩)
    have cast : ∀ a b : Nat, ((a : Int) != (b : Int)) = (a != b) := fun a b => by
      rw [Bool.eq_iff_iff, bne_iff_ne, bne_iff_ne]; omega
    exact fin _ _ _ _ rfl rfl rfl rfl (cast _ _).symm (cast _ _).symm

end Go.Proofs.Ytfemfmkgdgcemaa
