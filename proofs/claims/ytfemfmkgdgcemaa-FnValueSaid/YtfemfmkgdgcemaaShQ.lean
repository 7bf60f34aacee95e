
/-
  The model's greatest values. (Walks.)
-/
import Derived.Test.YtfemfmkgdgcemaaShL
import Derived.Test.YtfemfmkgdgcemaaShG
import Derived.OrdersHeld
namespace Go.Proofs.Ytfemfmkgdgcemaa
open Go.RowKit

def mxI (a b : Int) : Int := if a < b then b else a
theorem qOp_go {P : Program} {ops : Array Oper} {Q : Exit → Act → World → Prop} {i : Nat} {o : Oper} {K : Act → World → Prop} {a : Act} {w : World} (hi : ops[i]? = some o) (hw : Region.wanted o (yielded ops a.tmps) = true) (h : o.wp P a w K Q) : wpOp P ops Q i K a w := by
  unfold wpOp
  simp only [hi, hw, if_true]
  exact .inl h
theorem qYields_cell {P : Program} {ops : Array Oper} {S : World → Prop} {op : Oper} {a : Act} (hw : Region.wanted op (yielded ops a.tmps) = true) (ty : TypeId) (x : Operand) (ho : op.op = .load ty x) (v : Value)
    (hr : ∀ w, S w → (Instr.loadAt ty (a.eval x)).run P w = .ok v w) : YieldsIf P ops S op v a :=
  .inl ⟨hw, fun w hw' => by
    unfold execOp
    simp only [ho, Sem.run_bind, Sem.run_pure, Result.andThen_ok, hr w hw']⟩
theorem rows_apart {w : World} {base bb off rc : Nat} {f : Nat → Nat → Int} {us : List Value} (h : RowsAt w base (some ⟨bb, off, none⟩) rc (rowsR f 13) us) {i g c : Nat} (hi : i < 13) (hu : us[i]? = some (.slice (some ⟨g, 0, none⟩) 13 c)) : bb ≠ g := by
  have hL : (rowsR f 13)[i]? = some (numsR f i 13) := by simp [rowsR, hi]
  obtain ⟨bo, c2, e1, _, e3⟩ := h.2.1 i _ hL
  rw [hu] at e1
  simp only [Option.some.injEq, Value.slice.injEq] at e1
  obtain ⟨rfl, _, _⟩ := e1
  exact e3 _ _ rfl rfl
theorem cells_lt {w : World} {b o i : Nat} {l : List Int} (h : CellsAt w (some ⟨b, o, none⟩) (l.map (Value.int .i64))) (hi : i < l.length) : b < w.heap.size := by
  obtain ⟨b2, o2, he, hc⟩ := h.int i hi
  simp only [Option.some.injEq, Addr.mk.injEq, and_true] at he
  obtain ⟨rfl, rfl⟩ := he
  exact World.block_lt_of_cell? _ _ hc
theorem qcell {w : World} {b o g k : Nat} {v : Value} (h : w.cell? ⟨b, o, none⟩ = some v) (hne : b ≠ g) (u : Value) : (w.setCell ⟨g, k, none⟩ u).cell? ⟨b, o, none⟩ = some v :=
  (World.cell?_of_block (a := ⟨b, o, none⟩) (Below.heap_setCell w ⟨g, k, none⟩ u b hne)).trans h
theorem worthV_put (K : List (Nat × Nat × Nat)) (a c v : Nat) :
    (fun p q => if p = c ∧ q = a then mxI ((fun p q => if p = a ∧ q = c then mxI (worthV K a c) (v : Int) else worthV K p q) c a) (v : Int) else (fun p q => if p = a ∧ q = c then mxI (worthV K a c) (v : Int) else worthV K p q) p q) = worthV (K ++ [(a, c, v)]) := by
  funext p q
  rw [worthV_snoc]
  unfold addV mxI
  by_cases h1 : p = c ∧ q = a
  · obtain ⟨rfl, rfl⟩ := h1
    by_cases h2 : p = q
    · subst h2
      by_cases hlt : worthV K p p < (v : Int)
      · simp [hlt]
      · simp [hlt]
    · have h3 : ¬ (p = q ∧ q = p) := fun h => h2 h.1
      simp [h3]
  · by_cases h2 : p = a ∧ q = c
    · obtain ⟨rfl, rfl⟩ := h2
      simp only [if_neg h1]
      simp
    · simp only [if_neg h1, if_neg h2, if_neg (show ¬ ((p = a ∧ q = c) ∨ (p = c ∧ q = a)) from fun h => h.elim h2 h1)]

/-- a number of a row whose place is known -/
theorem RowsAt.num_at {w : World} {base bb off rc : Nat} {f : Nat → Nat → Int} {us : List Value} (h : RowsAt w base (some ⟨bb, off, none⟩) rc (rowsR f 13) us) {i j g c : Nat} (hi : i < 13) (hj : j < 13) (hu : us[i]? = some (.slice (some ⟨g, 0, none⟩) 13 c)) :
    w.cell? ⟨bb, off + i, none⟩ = some (.slice (some ⟨g, 0, none⟩) 13 c) ∧ w.cell? ⟨g, j, none⟩ = some (.int .i64 (f i j)) ∧ w.frozen? ⟨g, j, none⟩ = false := by
  obtain ⟨bb2, off2, g2, c2, e2, r1, s1, u2, f1⟩ := h.num hi hj
  rw [hu] at u2
  simp only [Option.some.injEq, Value.slice.injEq, Addr.mk.injEq, and_true, true_and] at u2 e2
  obtain ⟨rfl, rfl⟩ := u2
  obtain ⟨rfl, rfl⟩ := e2
  exact ⟨r1, s1, f1⟩
theorem put_two {f f' ff : Nat → Nat → Int} {a c v : Nat} {m1 m2 : Int}
    (HP : (fun p q => if p = c ∧ q = a then mxI ((fun p q => if p = a ∧ q = c then mxI (f a c) (v : Int) else f p q) c a) (v : Int) else (fun p q => if p = a ∧ q = c then mxI (f a c) (v : Int) else f p q) p q) = f')
    (h1 : mxI (f a c) (v : Int) = m1) (hff : (fun p q => if p = a ∧ q = c then m1 else f p q) = ff) (h2 : mxI (ff c a) (v : Int) = m2) : (fun p q => if p = c ∧ q = a then m2 else ff p q) = f' := by
  subst h1; subst hff; subst h2; exact HP
theorem rows_eq {w : World} {base : Nat} {ro : Option Addr} {rc : Nat} {f g : Nat → Nat → Int} {us : List Value} (h : RowsAt w base ro rc (rowsR f 13) us) (he : f = g) : RowsAt w base ro rc (rowsR g 13) us := he ▸ h

set_option maxRecDepth 100000 in
set_option maxHeartbeats 8000000 in
theorem specSheetValue_any (w h : Int) (ao bo co : Option Addr) (ka kb kc : Nat) (ws hs vs : List Int) (W : World) (hwl : ws.length ≤ 1048576) (ca : CellsAt W ao (ws.map (Value.int .i64))) (cb : CellsAt W bo (hs.map (Value.int .i64))) (cc : CellsAt W co (vs.map (Value.int .i64))) :
    Calls Try.prog 27 #[.int .i64 w, .int .i64 h, .slice ao ws.length ka, .slice bo hs.length kb, .slice co vs.length kc] W fun e W' =>
      e = .returned (.tuple #[.int .i64 (valO w h ws hs vs), .bool (shB w h && kindsB ws hs vs)]) ∧ Below W.heap.size W W' := by
  have H1 := Lib.hid (l9Sheet_any w h)
  cases hp : shB w h
  · rw [hp] at H1
    have hz : valO w h ws hs vs = 0 := by unfold valO; rw [hp]; rfl
    rw [hz, Bool.false_and]
    clear hz hp ca cb cc hwl
    go_enter Try.func27, Try.ntmps27
    go_wp2_with (go_at_call 31; refine (H1.out _).mono ?_; rintro e w1 ⟨rfl, rfl⟩; clear H1)
    go_ret2
    exact ⟨rfl, Below.refl _ _⟩
  · rw [hp] at H1
    cases hl : kindsL ws hs vs
    · have hb0 : kindsB ws hs vs = false := by unfold kindsB; rw [hl, Bool.false_and]
      have hz : valO w h ws hs vs = 0 := by unfold valO; rw [hb0, Bool.and_false]; rfl
      rw [hz, hb0, Bool.and_false]
      have H2 := Lib.hid (l6In_any (vs.length : Int) 1 4)
      unfold kindsL at hl
      rw [decide_eq_false_iff_not] at hl
      have arm : ∀ (p q r : Bool), l6B (vs.length : Int) 1 4 = p → ((ws.length : Int) != (vs.length : Int)) = q → ((hs.length : Int) != (vs.length : Int)) = r → (ws.length != vs.length) = q → (hs.length != vs.length) = r → Calls Try.prog 27 #[.int .i64 w, .int .i64 h, .slice ao ws.length ka, .slice bo hs.length kb, .slice co vs.length kc] W fun e W' =>
          e = .returned (.tuple #[.int .i64 0, .bool false]) ∧ Below W.heap.size W W' := by
        intro p q r e1 e2 e3 e4 e5
        have hor : p = false ∨ q = true ∨ r = true := by
          rw [← e1, ← e4, ← e5, bne_iff_ne, bne_iff_ne]
          unfold l6B
          rw [decide_eq_false_iff_not]
          omega
        rw [e1] at H2
        clear hl hz hb0 hp ca cb cc hwl e1
        cases p <;> cases q <;> cases r <;> first
          | (exfalso; simp at hor; done)
          | (clear hor
             go_enter Try.func27, Try.ntmps27
             go_wp2_with (first
               | (go_at_call 31; refine (H1.out _).mono ?_; rintro e w1 ⟨rfl, rfl⟩; clear H1)
               | (go_at_call 44; refine (H2.out _).mono ?_; rintro e w2 ⟨rfl, rfl⟩; clear H2))
             go_ret2
             exact ⟨rfl, Below.refl _ _⟩)
      have cast : ∀ a b : Nat, ((a : Int) != (b : Int)) = (a != b) := fun a b => by
        rw [Bool.eq_iff_iff, bne_iff_ne, bne_iff_ne]; omega
      exact arm _ _ _ rfl rfl rfl (cast _ _).symm (cast _ _).symm
    · have hl' := hl
      unfold kindsL at hl'
      rw [decide_eq_true_eq] at hl'
      obtain ⟨n1, n4, n2, n3⟩ := hl'
      obtain ⟨w, h, rfl, rfl, hw1, hw2, hh1, hh2⟩ := shB_yes hp
      have H2 := Lib.hid (l6In_any (vs.length : Int) 1 4)
      rw [show l6B (vs.length : Int) 1 4 = true by unfold l6B; rw [decide_eq_true_eq]; omega] at H2
      have CA := Lib.hid ca; have CB := Lib.hid cb; have CC := Lib.hid cc
      have HNO := Lib.hid (fun (i : Nat) (hi : i < ws.length) (h : kindB ws hs vs i = false) => kindsB_no hi h)
      have HYES := Lib.hid (fun (h : ∀ i, i < ws.length → kindB ws hs vs i = true) => kindsB_yes hl h)
      have HBI := Lib.hid (fun i => show kindB ws hs vs i = (shB (ws.getD i 0) (hs.getD i 0) && decide (0 ≤ vs.getD i 0 ∧ vs.getD i 0 ≤ 99)) from rfl)
      have HSU := Lib.hid (kindsN_succ ws hs vs)
      have HOK := Lib.hid (fun (i : Nat) (h : kindB ws hs vs i = true) => kindB_ok h)
      have HKO := Lib.hid (fun (h : ∀ i, i < ws.length → kindB ws hs vs i = true) => kindsN_ok h)
      have HVO := Lib.hid (show valO (w : Int) (h : Int) ws hs vs = if kindsB ws hs vs then tabC opG (worthV (kindsN ws hs vs ws.length)) w h else 0 by unfold valO; rw [hp, Bool.true_and]; rfl)
      rw [HVO.out, Bool.true_and, n2, n3]
      obtain ⟨R, hRV⟩ : ∃ R, R = if kindsB ws hs vs then tabC opG (worthV (kindsN ws hs vs ws.length)) w h else 0 := ⟨_, rfl⟩
      rw [← hRV]
      have HRV := Lib.hid hRV
      clear hRV
      have HH := Lib.hid n2; have HV := Lib.hid n3
      have HWO := Lib.hid (fun W => l9Worth_any W)
      rw [n3] at H2
      clear ca cb cc hl hwl n2 n3 hp HVO
      generalize hN : ws.length = N at *
      have HN := Lib.hid hN; clear hN
      go_enter Try.func27, Try.ntmps27
      go_wp2_with (first
        | (go_at_call 31; refine (H1.out _).mono ?_; rintro e w1 ⟨rfl, rfl⟩; clear H1)
        | (go_at_call 44; refine (H2.out _).mono ?_; rintro e w2 ⟨rfl, rfl⟩; clear H2)
        | (go_at_call 45; refine (HWO.out _).mono ?_; rintro e w3 ⟨ro, rc, rfl, ⟨us, hus⟩, hb3⟩; clear HWO))
      rename World => w3
      have hR0 : RowsAt w3 w2.heap.size ro rc (rowsR (worthV (kindsN ws hs vs 0)) 13) us := hus
      clear hus
      go_loopw [14] (fun vi wr => ∃ (i : Nat), i ≤ N ∧ vi = .int .i64 (i : Int) ∧ RowsAt wr w2.heap.size ro rc (rowsR (worthV (kindsN ws hs vs i)) 13) us ∧ (∀ j, j < i → kindB ws hs vs j = true) ∧ Below w2.heap.size w2 wr) (fun vi _ => N - (intOf vi).toNat)
      case atStart => exact ⟨0, by omega, rfl, hR0, fun j hj => by omega, hb3⟩
      case round =>
        clear hR0 hb3
        obtain ⟨i, hi, rfl, hR, hall, hB⟩ := hrel
        have HALL := Lib.hid hall; clear hall
        by_cases hlt : i < N
        · obtain ⟨b1, o1, rfl, d1⟩ := (CA.out.below hB).int i (by rw [HN.out]; exact hlt)
          obtain ⟨b2, o2, rfl, d2⟩ := (CB.out.below hB).int i (by rw [HH.out]; exact hlt)
          obtain ⟨b3, o3, rfl, d3⟩ := (CC.out.below hB).int i (by rw [HV.out]; exact hlt)
          have HB1 := Lib.hid (HBI.out i)
          cases hk : kindB ws hs vs i
          · rw [hk] at HB1
            have HFIN := Lib.hid (HNO.out i hlt hk)
            obtain ⟨x, hx⟩ : ∃ v, ws.getD i 0 = v := ⟨_, rfl⟩
            obtain ⟨y, hy⟩ : ∃ v, hs.getD i 0 = v := ⟨_, rfl⟩
            obtain ⟨v, hv⟩ : ∃ z, vs.getD i 0 = z := ⟨_, rfl⟩
            rw [hx, hy, hv] at HB1
            rw [hx] at d1
            rw [hy] at d2
            rw [hv] at d3
            clear hx hy hv hk
            have HSH := Lib.hid (fun n => l9Sheet_any x y (wr.drewN n))
            cases hxy : shB x y
            · rw [hxy] at HSH
              clear HB1 hxy
              go_wp2
              go_quiet ((go_at_call 31; exact Calls.quiet_of_same (HSH.out _)))
              go_wp2
              go_ret2
              exact ⟨by rw [HRV.out, HFIN.out]; rfl, hB.trans (below_drewN _ _ _)⟩
            · rw [hxy] at HSH
              rw [hxy, Bool.true_and] at HB1
              have HIN := Lib.hid (fun n => l6In_any v 0 99 (wr.drewN n))
              rw [show l6B v 0 99 = false from HB1.out.symm] at HIN
              clear HB1 hxy
              go_wp2
              go_quiet (first
                | (go_at_call 31; exact Calls.quiet_of_same (HSH.out _))
                | (go_at_call 44; exact Calls.quiet_of_same (HIN.out _)))
              go_wp2
              go_ret2
              exact ⟨by rw [HRV.out, HFIN.out]; rfl, hB.trans (below_drewN _ _ _)⟩
          · obtain ⟨⟨k1, k2, k3, k4, k5⟩, e1, e2, e3⟩ := HOK.out i hk
            have HALL2 := Lib.hid (rows_step (P := fun j => kindB ws hs vs j = true) HALL.out hk)
            have HSS := Lib.hid (HSU.out i)
            obtain ⟨⟨a, c, v⟩, hkn⟩ : ∃ k, kindN ws hs vs i = k := ⟨_, rfl⟩
            rw [hkn] at k1 k2 k3 k4 k5 e1 e2 e3 HSS
            simp only at k1 k2 k3 k4 k5 e1 e2 e3
            rw [e1] at d1
            rw [e2] at d2
            rw [e3] at d3
            rw [hk, e1, e2, e3, shB_nat k1 k2 k3 k4] at HB1
            clear hkn e1 e2 e3 hk HB1
            have HSH := Lib.hid (fun n => l9Sheet_any (a : Int) (c : Int) (wr.drewN n))
            rw [shB_nat k1 k2 k3 k4] at HSH
            have HIN := Lib.hid (fun n => l6In_any (v : Int) 0 99 (wr.drewN n))
            rw [show l6B (v : Int) 0 99 = true by unfold l6B; rw [decide_eq_true_eq]; omega] at HIN
            have HPUT := Lib.hid (worthV_put (kindsN ws hs vs i) a c v)
            rw [← HSS.out] at HPUT
            clear HSS
            generalize worthV (kindsN ws hs vs i) = f at *
            obtain ⟨f', hf2⟩ : ∃ f', worthV (kindsN ws hs vs (i + 1)) = f' := ⟨_, rfl⟩
            rw [hf2] at HPUT
            have HF2 := Lib.hid hf2
            clear hf2
            go_wp2
            go_quiet (first
              | (go_at_call 31; exact Calls.quiet_of_same (HSH.out _))
              | (go_at_call 44; exact Calls.quiet_of_same (HIN.out _)))
            go_wp2
            replace hR : RowsAt (wr.drewN nq) w2.heap.size ro rc (rowsR f 13) us := hR.below (below_drewN _ _ _)
            replace hB : Below w2.heap.size w2 (wr.drewN nq) := hB.trans (below_drewN _ _ _)
            replace d1 : (wr.drewN nq).cell? ⟨b1, o1 + i, none⟩ = some (.int .i64 (a : Int)) := d1
            replace d2 : (wr.drewN nq).cell? ⟨b2, o2 + i, none⟩ = some (.int .i64 (c : Int)) := d2
            replace d3 : (wr.drewN nq).cell? ⟨b3, o3 + i, none⟩ = some (.int .i64 (v : Int)) := d3
            clear HSH HIN
            generalize wr.drewN nq = wa at *
            obtain ⟨bb, off, g1, c1, rfl, r1, s1, u1, f1⟩ := hR.num (i := a) (j := c) (by omega) (by omega)
            have hg1 : w2.heap.size ≤ g1 := (hR.lt u1 _ rfl).1
            obtain ⟨bb2, off2, g2, c2, e2, x2, y2, u2, z2⟩ := hR.num (i := c) (j := a) (by omega) (by omega)
            have hg2 : w2.heap.size ≤ g2 := (hR.lt u2 _ rfl).1
            have U1 := Lib.hid u1
            have U2 := Lib.hid u2
            clear u1 u2 e2 x2 y2 z2 bb2 off2
            have hb1n : b1 < w2.heap.size := cells_lt CA.out (by rw [HN.out]; exact hlt)
            have hb2n : b2 < w2.heap.size := cells_lt CB.out (by rw [HH.out]; exact hlt)
            have hb3n : b3 < w2.heap.size := cells_lt CC.out (by rw [HV.out]; exact hlt)
            have hai : (a : Int) < 13 := by omega
            have hci : (c : Int) < 13 := by omega
            have hac : a < 13 := by omega
            have hcc : c < 13 := by omega
            obtain ⟨q1, hq1⟩ : ∃ q, f a c = q := ⟨_, rfl⟩
            rw [hq1] at s1
            obtain ⟨m1, hm1⟩ : ∃ m, (if q1 < (v : Int) then (v : Int) else q1) = m := ⟨_, rfl⟩
            have HM1 := Lib.hid (show mxI (f a c) (v : Int) = m1 by rw [hq1]; exact hm1)
            have HE1 := Lib.hid hm1
            clear hq1 hm1
            refine wp_region_held (S := fun W => W.cell? ⟨b1, o1 + i, none⟩ = some (.int .i64 (a : Int)) ∧ W.cell? ⟨b2, o2 + i, none⟩ = some (.int .i64 (c : Int)) ∧ W.cell? ⟨b3, o3 + i, none⟩ = some (.int .i64 (v : Int)) ∧ W.cell? ⟨bb, off + a, none⟩ = some (.slice (some ⟨g1, 0, none⟩) 13 c1) ) (by kernel_rfl) ?_
            have hS : ({ wa with drawn := wa.drawn + 1 } : World).cell? ⟨b1, o1 + i, none⟩ = some (.int .i64 (a : Int)) ∧ ({ wa with drawn := wa.drawn + 1 } : World).cell? ⟨b2, o2 + i, none⟩ = some (.int .i64 (c : Int)) ∧ ({ wa with drawn := wa.drawn + 1 } : World).cell? ⟨b3, o3 + i, none⟩ = some (.int .i64 (v : Int)) ∧ ({ wa with drawn := wa.drawn + 1 } : World).cell? ⟨bb, off + a, none⟩ = some (.slice (some ⟨g1, 0, none⟩) 13 c1)  := ⟨d1, d2, d3, r1⟩
            have sS : ({ wa with drawn := wa.drawn + 1 } : World).cell? ⟨g1, c, none⟩ = some (.int .i64 q1) := s1
            have fz : ({ wa with drawn := wa.drawn + 1 } : World).frozen? ⟨g1, c, none⟩ = false := f1
            replace hR : RowsAt ({ wa with drawn := wa.drawn + 1 } : World) w2.heap.size (some ⟨bb, off, none⟩) rc _ us := hR.below (show Below _ wa ({ wa with drawn := wa.drawn + 1 } : World) from below_drewN _ _ 1)
            replace hB : Below w2.heap.size w2 ({ wa with drawn := wa.drawn + 1 } : World) := hB.trans (below_drewN _ _ 1)
            clear d1 d2 d3 r1 s1 f1
            generalize ({ wa with drawn := wa.drawn + 1 } : World) = wa2 at *
            change Go.wpAnyH Try.prog Region.Mode.any _ _ _ 31 (Array.replicate 31 false) _ _
            refine wpAnyH_take (i := 0) (v := .slice (some ⟨bb, off, none⟩) 13 rc) rfl (by kernel_rfl) (by kernel_rfl) (by kernel_rfl) (fun _ _ _ h => h) (Yields.yieldsIf (Or.inl ⟨by rfl, fun w => by go_simp⟩)) hS ?_
            refine wpAnyH_take (i := 1) (v := .slice (some ⟨b1, o1, none⟩) N ka) rfl (by kernel_rfl) (by kernel_rfl) (by kernel_rfl) (fun _ _ _ h => h) (Yields.yieldsIf (Or.inl ⟨by rfl, fun w => by go_simp⟩)) hS ?_
            refine wpAnyH_take (i := 2) (v := .int .i64 (i : Int)) rfl (by kernel_rfl) (by kernel_rfl) (by kernel_rfl) (fun _ _ _ h => h) (Yields.yieldsIf (Or.inl ⟨by rfl, fun w => by go_simp⟩)) hS ?_
            refine wpAnyH_take (i := 3) (v := .pointer (some ⟨b1, o1 + i, none⟩)) rfl (by kernel_rfl) (by kernel_rfl) (by kernel_rfl) (fun _ _ _ h => h) (Yields.yieldsIf (Or.inl ⟨by rfl, fun w => by go_simp⟩)) hS ?_
            refine wpAnyH_take (i := 4) (v := .int .i64 (a : Int)) rfl (by kernel_rfl) (by kernel_rfl) (by kernel_rfl) (fun _ _ _ h => h) (qYields_cell (by rfl) 3 _ rfl _ (fun w' hw => by have hc := hw.1; go_simp)) hS ?_
            refine wpAnyH_take (i := 5) (v := .pointer (some ⟨bb, off + a, none⟩)) rfl (by kernel_rfl) (by kernel_rfl) (by kernel_rfl) (fun _ _ _ h => h) (Yields.yieldsIf (Or.inl ⟨by rfl, fun w => by go_simp⟩)) hS ?_
            refine wpAnyH_take (i := 6) (v := .slice (some ⟨g1, 0, none⟩) 13 c1) rfl (by kernel_rfl) (by kernel_rfl) (by kernel_rfl) (fun _ _ _ h => h) (qYields_cell (by rfl) 31 _ rfl _ (fun w' hw => by have hc := hw.2.2.2; go_simp)) hS ?_
            refine wpAnyH_take (i := 7) (v := .slice (some ⟨b2, o2, none⟩) N kb) rfl (by kernel_rfl) (by kernel_rfl) (by kernel_rfl) (fun _ _ _ h => h) (Yields.yieldsIf (Or.inl ⟨by rfl, fun w => by go_simp⟩)) hS ?_
            refine wpAnyH_take (i := 8) (v := .int .i64 (i : Int)) rfl (by kernel_rfl) (by kernel_rfl) (by kernel_rfl) (fun _ _ _ h => h) (Yields.yieldsIf (Or.inl ⟨by rfl, fun w => by go_simp⟩)) hS ?_
            refine wpAnyH_take (i := 9) (v := .pointer (some ⟨b2, o2 + i, none⟩)) rfl (by kernel_rfl) (by kernel_rfl) (by kernel_rfl) (fun _ _ _ h => h) (Yields.yieldsIf (Or.inl ⟨by rfl, fun w => by go_simp⟩)) hS ?_
            refine wpAnyH_take (i := 10) (v := .int .i64 (c : Int)) rfl (by kernel_rfl) (by kernel_rfl) (by kernel_rfl) (fun _ _ _ h => h) (qYields_cell (by rfl) 3 _ rfl _ (fun w' hw => by have hc := hw.2.1; go_simp)) hS ?_
            refine wpAnyH_take (i := 11) (v := .slice (some ⟨bb, off, none⟩) 13 rc) rfl (by kernel_rfl) (by kernel_rfl) (by kernel_rfl) (fun _ _ _ h => h) (Yields.yieldsIf (Or.inl ⟨by rfl, fun w => by go_simp⟩)) hS ?_
            refine wpAnyH_take (i := 12) (v := .slice (some ⟨b1, o1, none⟩) N ka) rfl (by kernel_rfl) (by kernel_rfl) (by kernel_rfl) (fun _ _ _ h => h) (Yields.yieldsIf (Or.inl ⟨by rfl, fun w => by go_simp⟩)) hS ?_
            refine wpAnyH_take (i := 13) (v := .int .i64 (i : Int)) rfl (by kernel_rfl) (by kernel_rfl) (by kernel_rfl) (fun _ _ _ h => h) (Yields.yieldsIf (Or.inl ⟨by rfl, fun w => by go_simp⟩)) hS ?_
            refine wpAnyH_take (i := 14) (v := .pointer (some ⟨b1, o1 + i, none⟩)) rfl (by kernel_rfl) (by kernel_rfl) (by kernel_rfl) (fun _ _ _ h => h) (Yields.yieldsIf (Or.inl ⟨by rfl, fun w => by go_simp⟩)) hS ?_
            refine wpAnyH_take (i := 15) (v := .int .i64 (a : Int)) rfl (by kernel_rfl) (by kernel_rfl) (by kernel_rfl) (fun _ _ _ h => h) (qYields_cell (by rfl) 3 _ rfl _ (fun w' hw => by have hc := hw.1; go_simp)) hS ?_
            refine wpAnyH_take (i := 16) (v := .pointer (some ⟨bb, off + a, none⟩)) rfl (by kernel_rfl) (by kernel_rfl) (by kernel_rfl) (fun _ _ _ h => h) (Yields.yieldsIf (Or.inl ⟨by rfl, fun w => by go_simp⟩)) hS ?_
            refine wpAnyH_take (i := 17) (v := .slice (some ⟨g1, 0, none⟩) 13 c1) rfl (by kernel_rfl) (by kernel_rfl) (by kernel_rfl) (fun _ _ _ h => h) (qYields_cell (by rfl) 31 _ rfl _ (fun w' hw => by have hc := hw.2.2.2; go_simp)) hS ?_
            refine wpAnyH_take (i := 18) (v := .slice (some ⟨b2, o2, none⟩) N kb) rfl (by kernel_rfl) (by kernel_rfl) (by kernel_rfl) (fun _ _ _ h => h) (Yields.yieldsIf (Or.inl ⟨by rfl, fun w => by go_simp⟩)) hS ?_
            refine wpAnyH_take (i := 19) (v := .int .i64 (i : Int)) rfl (by kernel_rfl) (by kernel_rfl) (by kernel_rfl) (fun _ _ _ h => h) (Yields.yieldsIf (Or.inl ⟨by rfl, fun w => by go_simp⟩)) hS ?_
            refine wpAnyH_take (i := 20) (v := .pointer (some ⟨b2, o2 + i, none⟩)) rfl (by kernel_rfl) (by kernel_rfl) (by kernel_rfl) (fun _ _ _ h => h) (Yields.yieldsIf (Or.inl ⟨by rfl, fun w => by go_simp⟩)) hS ?_
            refine wpAnyH_take (i := 21) (v := .int .i64 (c : Int)) rfl (by kernel_rfl) (by kernel_rfl) (by kernel_rfl) (fun _ _ _ h => h) (qYields_cell (by rfl) 3 _ rfl _ (fun w' hw => by have hc := hw.2.1; go_simp)) hS ?_
            refine wpAnyH_take (i := 22) (v := .pointer (some ⟨g1, c, none⟩)) rfl (by kernel_rfl) (by kernel_rfl) (by kernel_rfl) (fun _ _ _ h => h) (Yields.yieldsIf (Or.inl ⟨by rfl, fun w => by go_simp⟩)) hS ?_
            refine wpAnyH_take (i := 24) (v := .slice (some ⟨b3, o3, none⟩) N kc) rfl (by kernel_rfl) (by kernel_rfl) (by kernel_rfl) (fun _ _ _ h => h) (Yields.yieldsIf (Or.inl ⟨by rfl, fun w => by go_simp⟩)) hS ?_
            refine wpAnyH_take (i := 25) (v := .int .i64 (i : Int)) rfl (by kernel_rfl) (by kernel_rfl) (by kernel_rfl) (fun _ _ _ h => h) (Yields.yieldsIf (Or.inl ⟨by rfl, fun w => by go_simp⟩)) hS ?_
            refine wpAnyH_take (i := 26) (v := .pointer (some ⟨b3, o3 + i, none⟩)) rfl (by kernel_rfl) (by kernel_rfl) (by kernel_rfl) (fun _ _ _ h => h) (Yields.yieldsIf (Or.inl ⟨by rfl, fun w => by go_simp⟩)) hS ?_
            refine wpAnyH_take (i := 27) (v := .int .i64 (v : Int)) rfl (by kernel_rfl) (by kernel_rfl) (by kernel_rfl) (fun _ _ _ h => h) (qYields_cell (by rfl) 3 _ rfl _ (fun w' hw => by have hc := hw.2.2.1; go_simp)) hS ?_
            refine wpAnyH_all (rs := [23]) (by kernel_rfl) (by decide) ?_
            intro i' hi'
            simp only [List.mem_cons, List.not_mem_nil, or_false] at hi'
            subst hi'
            refine qOp_go rfl (by rfl) ?_
            unfold Oper.wp
            go_simp
            try refine ⟨hS, ?_⟩
            refine wpAnyH_take (i := 28) (v := .int .i64 (if q1 < (v : Int) then (v : Int) else q1)) rfl (by kernel_rfl) (by kernel_rfl) (by kernel_rfl) (fun _ _ _ h => h) (Yields.yieldsIf (Or.inl ⟨by rfl, fun w => by go_simp⟩)) hS ?_
            refine wpAnyH_take (i := 29) (v := .pointer (some ⟨g1, c, none⟩)) rfl (by kernel_rfl) (by kernel_rfl) (by kernel_rfl) (fun _ _ _ h => h) (Yields.yieldsIf (Or.inl ⟨by rfl, fun w => by go_simp⟩)) hS ?_
            refine wpAnyH_all (rs := [30]) (by kernel_rfl) (by decide) ?_
            intro i' hi'
            simp only [List.mem_cons, List.not_mem_nil, or_false] at hi'
            subst hi'
            rw [HE1.out]
            refine qOp_go rfl (by rfl) ?_
            unfold Oper.wp
            go_simp
            have hap : bb ≠ g1 := rows_apart hR hac U1.out
            have hS2 : (wa2.setCell ⟨g1, c, none⟩ (.int .i64 m1)).cell? ⟨b1, o1 + i, none⟩ = some (.int .i64 (a : Int)) ∧ (wa2.setCell ⟨g1, c, none⟩ (.int .i64 m1)).cell? ⟨b2, o2 + i, none⟩ = some (.int .i64 (c : Int)) ∧ (wa2.setCell ⟨g1, c, none⟩ (.int .i64 m1)).cell? ⟨b3, o3 + i, none⟩ = some (.int .i64 (v : Int)) ∧ (wa2.setCell ⟨g1, c, none⟩ (.int .i64 m1)).cell? ⟨bb, off + a, none⟩ = some (.slice (some ⟨g1, 0, none⟩) 13 c1)  := ⟨qcell hS.1 (by omega) _, qcell hS.2.1 (by omega) _, qcell hS.2.2.1 (by omega) _, qcell hS.2.2.2 hap _⟩
            have hR2 := hR.put_num (j := c) hac U1.out m1
            have hB2 := hB.setCell (p := ⟨g1, c, none⟩) hg1 (.int .i64 m1)
            clear hR hB hS sS fz hap HE1
            first | refine ⟨hS2, ?_⟩ | refine ⟨hS2.2.2.2, ?_⟩ | skip
            refine wpAnyH_done (by kernel_rfl) ?_ _
            obtain ⟨d1, d2, d3, _⟩ := hS2
            obtain ⟨ff, hff⟩ : ∃ ff, (fun p q => if p = a ∧ q = c then m1 else f p q) = ff := ⟨_, rfl⟩
            rw [hff] at hR2
            have HFF := Lib.hid hff
            clear hff
            have hR := hR2
            have hB := hB2
            clear hR2 hB2
            generalize wa2.setCell ⟨g1, c, none⟩ (.int .i64 m1) = wb at *
            have r1 := (hR.num_at hcc hac U2.out).1
            have s1 := (hR.num_at hcc hac U2.out).2.1
            have f1 := (hR.num_at hcc hac U2.out).2.2
            obtain ⟨q2, hq2⟩ : ∃ q, ff c a = q := ⟨_, rfl⟩
            rw [hq2] at s1
            obtain ⟨m2, hm2⟩ : ∃ m, (if q2 < (v : Int) then (v : Int) else q2) = m := ⟨_, rfl⟩
            have HM2 := Lib.hid (show mxI (ff c a) (v : Int) = m2 by rw [hq2]; exact hm2)
            have HE2 := Lib.hid hm2
            clear hq2 hm2
            go_wp2
            refine wp_region_held (S := fun W => W.cell? ⟨b1, o1 + i, none⟩ = some (.int .i64 (a : Int)) ∧ W.cell? ⟨b2, o2 + i, none⟩ = some (.int .i64 (c : Int)) ∧ W.cell? ⟨b3, o3 + i, none⟩ = some (.int .i64 (v : Int)) ∧ W.cell? ⟨bb, off + c, none⟩ = some (.slice (some ⟨g2, 0, none⟩) 13 c2) ) (by kernel_rfl) ?_
            have hS : ({ wb with drawn := wb.drawn + 1 } : World).cell? ⟨b1, o1 + i, none⟩ = some (.int .i64 (a : Int)) ∧ ({ wb with drawn := wb.drawn + 1 } : World).cell? ⟨b2, o2 + i, none⟩ = some (.int .i64 (c : Int)) ∧ ({ wb with drawn := wb.drawn + 1 } : World).cell? ⟨b3, o3 + i, none⟩ = some (.int .i64 (v : Int)) ∧ ({ wb with drawn := wb.drawn + 1 } : World).cell? ⟨bb, off + c, none⟩ = some (.slice (some ⟨g2, 0, none⟩) 13 c2)  := ⟨d1, d2, d3, r1⟩
            have sS : ({ wb with drawn := wb.drawn + 1 } : World).cell? ⟨g2, a, none⟩ = some (.int .i64 q2) := s1
            have fz : ({ wb with drawn := wb.drawn + 1 } : World).frozen? ⟨g2, a, none⟩ = false := f1
            replace hR : RowsAt ({ wb with drawn := wb.drawn + 1 } : World) w2.heap.size (some ⟨bb, off, none⟩) rc _ us := hR.below (show Below _ wb ({ wb with drawn := wb.drawn + 1 } : World) from below_drewN _ _ 1)
            replace hB : Below w2.heap.size w2 ({ wb with drawn := wb.drawn + 1 } : World) := hB.trans (below_drewN _ _ 1)
            clear d1 d2 d3 r1 s1 f1
            generalize ({ wb with drawn := wb.drawn + 1 } : World) = wb2 at *
            change Go.wpAnyH Try.prog Region.Mode.any _ _ _ 31 (Array.replicate 31 false) _ _
            refine wpAnyH_take (i := 0) (v := .slice (some ⟨bb, off, none⟩) 13 rc) rfl (by kernel_rfl) (by kernel_rfl) (by kernel_rfl) (fun _ _ _ h => h) (Yields.yieldsIf (Or.inl ⟨by rfl, fun w => by go_simp⟩)) hS ?_
            refine wpAnyH_take (i := 1) (v := .slice (some ⟨b2, o2, none⟩) N kb) rfl (by kernel_rfl) (by kernel_rfl) (by kernel_rfl) (fun _ _ _ h => h) (Yields.yieldsIf (Or.inl ⟨by rfl, fun w => by go_simp⟩)) hS ?_
            refine wpAnyH_take (i := 2) (v := .int .i64 (i : Int)) rfl (by kernel_rfl) (by kernel_rfl) (by kernel_rfl) (fun _ _ _ h => h) (Yields.yieldsIf (Or.inl ⟨by rfl, fun w => by go_simp⟩)) hS ?_
            refine wpAnyH_take (i := 3) (v := .pointer (some ⟨b2, o2 + i, none⟩)) rfl (by kernel_rfl) (by kernel_rfl) (by kernel_rfl) (fun _ _ _ h => h) (Yields.yieldsIf (Or.inl ⟨by rfl, fun w => by go_simp⟩)) hS ?_
            refine wpAnyH_take (i := 4) (v := .int .i64 (c : Int)) rfl (by kernel_rfl) (by kernel_rfl) (by kernel_rfl) (fun _ _ _ h => h) (qYields_cell (by rfl) 3 _ rfl _ (fun w' hw => by have hc := hw.2.1; go_simp)) hS ?_
            refine wpAnyH_take (i := 5) (v := .pointer (some ⟨bb, off + c, none⟩)) rfl (by kernel_rfl) (by kernel_rfl) (by kernel_rfl) (fun _ _ _ h => h) (Yields.yieldsIf (Or.inl ⟨by rfl, fun w => by go_simp⟩)) hS ?_
            refine wpAnyH_take (i := 6) (v := .slice (some ⟨g2, 0, none⟩) 13 c2) rfl (by kernel_rfl) (by kernel_rfl) (by kernel_rfl) (fun _ _ _ h => h) (qYields_cell (by rfl) 31 _ rfl _ (fun w' hw => by have hc := hw.2.2.2; go_simp)) hS ?_
            refine wpAnyH_take (i := 7) (v := .slice (some ⟨b1, o1, none⟩) N ka) rfl (by kernel_rfl) (by kernel_rfl) (by kernel_rfl) (fun _ _ _ h => h) (Yields.yieldsIf (Or.inl ⟨by rfl, fun w => by go_simp⟩)) hS ?_
            refine wpAnyH_take (i := 8) (v := .int .i64 (i : Int)) rfl (by kernel_rfl) (by kernel_rfl) (by kernel_rfl) (fun _ _ _ h => h) (Yields.yieldsIf (Or.inl ⟨by rfl, fun w => by go_simp⟩)) hS ?_
            refine wpAnyH_take (i := 9) (v := .pointer (some ⟨b1, o1 + i, none⟩)) rfl (by kernel_rfl) (by kernel_rfl) (by kernel_rfl) (fun _ _ _ h => h) (Yields.yieldsIf (Or.inl ⟨by rfl, fun w => by go_simp⟩)) hS ?_
            refine wpAnyH_take (i := 10) (v := .int .i64 (a : Int)) rfl (by kernel_rfl) (by kernel_rfl) (by kernel_rfl) (fun _ _ _ h => h) (qYields_cell (by rfl) 3 _ rfl _ (fun w' hw => by have hc := hw.1; go_simp)) hS ?_
            refine wpAnyH_take (i := 11) (v := .slice (some ⟨bb, off, none⟩) 13 rc) rfl (by kernel_rfl) (by kernel_rfl) (by kernel_rfl) (fun _ _ _ h => h) (Yields.yieldsIf (Or.inl ⟨by rfl, fun w => by go_simp⟩)) hS ?_
            refine wpAnyH_take (i := 12) (v := .slice (some ⟨b2, o2, none⟩) N kb) rfl (by kernel_rfl) (by kernel_rfl) (by kernel_rfl) (fun _ _ _ h => h) (Yields.yieldsIf (Or.inl ⟨by rfl, fun w => by go_simp⟩)) hS ?_
            refine wpAnyH_take (i := 13) (v := .int .i64 (i : Int)) rfl (by kernel_rfl) (by kernel_rfl) (by kernel_rfl) (fun _ _ _ h => h) (Yields.yieldsIf (Or.inl ⟨by rfl, fun w => by go_simp⟩)) hS ?_
            refine wpAnyH_take (i := 14) (v := .pointer (some ⟨b2, o2 + i, none⟩)) rfl (by kernel_rfl) (by kernel_rfl) (by kernel_rfl) (fun _ _ _ h => h) (Yields.yieldsIf (Or.inl ⟨by rfl, fun w => by go_simp⟩)) hS ?_
            refine wpAnyH_take (i := 15) (v := .int .i64 (c : Int)) rfl (by kernel_rfl) (by kernel_rfl) (by kernel_rfl) (fun _ _ _ h => h) (qYields_cell (by rfl) 3 _ rfl _ (fun w' hw => by have hc := hw.2.1; go_simp)) hS ?_
            refine wpAnyH_take (i := 16) (v := .pointer (some ⟨bb, off + c, none⟩)) rfl (by kernel_rfl) (by kernel_rfl) (by kernel_rfl) (fun _ _ _ h => h) (Yields.yieldsIf (Or.inl ⟨by rfl, fun w => by go_simp⟩)) hS ?_
            refine wpAnyH_take (i := 17) (v := .slice (some ⟨g2, 0, none⟩) 13 c2) rfl (by kernel_rfl) (by kernel_rfl) (by kernel_rfl) (fun _ _ _ h => h) (qYields_cell (by rfl) 31 _ rfl _ (fun w' hw => by have hc := hw.2.2.2; go_simp)) hS ?_
            refine wpAnyH_take (i := 18) (v := .slice (some ⟨b1, o1, none⟩) N ka) rfl (by kernel_rfl) (by kernel_rfl) (by kernel_rfl) (fun _ _ _ h => h) (Yields.yieldsIf (Or.inl ⟨by rfl, fun w => by go_simp⟩)) hS ?_
            refine wpAnyH_take (i := 19) (v := .int .i64 (i : Int)) rfl (by kernel_rfl) (by kernel_rfl) (by kernel_rfl) (fun _ _ _ h => h) (Yields.yieldsIf (Or.inl ⟨by rfl, fun w => by go_simp⟩)) hS ?_
            refine wpAnyH_take (i := 20) (v := .pointer (some ⟨b1, o1 + i, none⟩)) rfl (by kernel_rfl) (by kernel_rfl) (by kernel_rfl) (fun _ _ _ h => h) (Yields.yieldsIf (Or.inl ⟨by rfl, fun w => by go_simp⟩)) hS ?_
            refine wpAnyH_take (i := 21) (v := .int .i64 (a : Int)) rfl (by kernel_rfl) (by kernel_rfl) (by kernel_rfl) (fun _ _ _ h => h) (qYields_cell (by rfl) 3 _ rfl _ (fun w' hw => by have hc := hw.1; go_simp)) hS ?_
            refine wpAnyH_take (i := 22) (v := .pointer (some ⟨g2, a, none⟩)) rfl (by kernel_rfl) (by kernel_rfl) (by kernel_rfl) (fun _ _ _ h => h) (Yields.yieldsIf (Or.inl ⟨by rfl, fun w => by go_simp⟩)) hS ?_
            refine wpAnyH_take (i := 24) (v := .slice (some ⟨b3, o3, none⟩) N kc) rfl (by kernel_rfl) (by kernel_rfl) (by kernel_rfl) (fun _ _ _ h => h) (Yields.yieldsIf (Or.inl ⟨by rfl, fun w => by go_simp⟩)) hS ?_
            refine wpAnyH_take (i := 25) (v := .int .i64 (i : Int)) rfl (by kernel_rfl) (by kernel_rfl) (by kernel_rfl) (fun _ _ _ h => h) (Yields.yieldsIf (Or.inl ⟨by rfl, fun w => by go_simp⟩)) hS ?_
            refine wpAnyH_take (i := 26) (v := .pointer (some ⟨b3, o3 + i, none⟩)) rfl (by kernel_rfl) (by kernel_rfl) (by kernel_rfl) (fun _ _ _ h => h) (Yields.yieldsIf (Or.inl ⟨by rfl, fun w => by go_simp⟩)) hS ?_
            refine wpAnyH_take (i := 27) (v := .int .i64 (v : Int)) rfl (by kernel_rfl) (by kernel_rfl) (by kernel_rfl) (fun _ _ _ h => h) (qYields_cell (by rfl) 3 _ rfl _ (fun w' hw => by have hc := hw.2.2.1; go_simp)) hS ?_
            refine wpAnyH_all (rs := [23]) (by kernel_rfl) (by decide) ?_
            intro i' hi'
            simp only [List.mem_cons, List.not_mem_nil, or_false] at hi'
            subst hi'
            refine qOp_go rfl (by rfl) ?_
            unfold Oper.wp
            go_simp
            try refine ⟨hS, ?_⟩
            refine wpAnyH_take (i := 28) (v := .int .i64 (if q2 < (v : Int) then (v : Int) else q2)) rfl (by kernel_rfl) (by kernel_rfl) (by kernel_rfl) (fun _ _ _ h => h) (Yields.yieldsIf (Or.inl ⟨by rfl, fun w => by go_simp⟩)) hS ?_
            refine wpAnyH_take (i := 29) (v := .pointer (some ⟨g2, a, none⟩)) rfl (by kernel_rfl) (by kernel_rfl) (by kernel_rfl) (fun _ _ _ h => h) (Yields.yieldsIf (Or.inl ⟨by rfl, fun w => by go_simp⟩)) hS ?_
            refine wpAnyH_all (rs := [30]) (by kernel_rfl) (by decide) ?_
            intro i' hi'
            simp only [List.mem_cons, List.not_mem_nil, or_false] at hi'
            subst hi'
            rw [HE2.out]
            refine qOp_go rfl (by rfl) ?_
            unfold Oper.wp
            go_simp
            have hap : bb ≠ g2 := rows_apart hR hcc U2.out
            have hS2 : (wb2.setCell ⟨g2, a, none⟩ (.int .i64 m2)).cell? ⟨b1, o1 + i, none⟩ = some (.int .i64 (a : Int)) ∧ (wb2.setCell ⟨g2, a, none⟩ (.int .i64 m2)).cell? ⟨b2, o2 + i, none⟩ = some (.int .i64 (c : Int)) ∧ (wb2.setCell ⟨g2, a, none⟩ (.int .i64 m2)).cell? ⟨b3, o3 + i, none⟩ = some (.int .i64 (v : Int)) ∧ (wb2.setCell ⟨g2, a, none⟩ (.int .i64 m2)).cell? ⟨bb, off + c, none⟩ = some (.slice (some ⟨g2, 0, none⟩) 13 c2)  := ⟨qcell hS.1 (by omega) _, qcell hS.2.1 (by omega) _, qcell hS.2.2.1 (by omega) _, qcell hS.2.2.2 hap _⟩
            have hR2 := hR.put_num (j := a) hcc U2.out m2
            have hB2 := hB.setCell (p := ⟨g2, a, none⟩) hg2 (.int .i64 m2)
            clear hR hB hS sS fz hap HE2
            first | refine ⟨hS2, ?_⟩ | refine ⟨hS2.2.2.2, ?_⟩ | skip
            refine wpAnyH_done (by kernel_rfl) ?_ _
            clear hS2
            have hR4 := rows_eq hR2 (put_two HPUT.out HM1.out HFF.out HM2.out)
            have hB4 : Below w2.heap.size w2 (wb2.setCell ⟨g2, a, none⟩ (.int .i64 m2)) := hB2
            clear hR2 hB2 HPUT HM1 HM2 HFF
            generalize wb2.setCell ⟨g2, a, none⟩ (.int .i64 m2) = wc at *
            go_wp2
            go_roundw
            case rel => exact ⟨i + 1, by omega, by go_num, rows_eq hR4 HF2.out.symm, HALL2.out, hB4⟩
            case measure => simp [intOf]; omega
        · have hli : decide ((i : Int) < (N : Int)) = false := by rw [decide_eq_false_iff_not]; omega
          obtain rfl : i = N := by omega
          have HFIN := Lib.hid (HYES.out HALL.out)
          have hOK := HKO.out HALL.out
          have HTB := Lib.hid (fun (mo : Option Addr) (mc B0 : Nat) (W : World) (hM : RowsOwn W B0 mo mc (rowsR (worthV (kindsN ws hs vs i)) 13)) => l9Table_any (worthV (kindsN ws hs vs i)) (valH_bd hOK) mo mc B0 W hM)
          have HVAL := Lib.hid (show hlf (worthV (kindsN ws hs vs i)) w h = tabC opG (worthV (kindsN ws hs vs i)) w h from hlf_tab _ hw1 hh1)
          clear hOK
          generalize hlf (worthV (kindsN ws hs vs i)) = f at *
          generalize worthV (kindsN ws hs vs i) = u at *
          go_wp2_with (go_at_call 40; refine (HTB.out _ _ _ _ ⟨us, hR⟩).mono ?_; rintro e w5 ⟨ro5, rc5, rfl, ⟨us5, hus5⟩, hb5⟩; clear HTB
                       obtain ⟨bb5, off5, g5, c5, e5, r5, s5, _, _⟩ := hus5.num (i := w) (j := h) (by omega) (by omega)
                       rw [HVAL.out] at s5
                       subst e5
                       clear hus5 hR)
          go_ret2
          exact ⟨by rw [HRV.out, HFIN.out]; rfl, below_step hB hB.size hb5⟩

end Go.Proofs.Ytfemfmkgdgcemaa
