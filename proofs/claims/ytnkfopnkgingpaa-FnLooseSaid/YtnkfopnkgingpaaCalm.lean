
/-
  Two permutations that are drawn, and those that are often fair or loose. (Walks.)
-/
import Derived.Test.YtnkfopnkgingpaaPermD
import Derived.Test.YtnkfopnkgingpaaSevY
namespace Go.Proofs.Ytnkfopnkgingpaa
open Go.WideShapes Go.RowKit

theorem div23 {v : Nat} (h : (v : Int) < 24) : ∃ q : Nat, (v : Int).tdiv 23 = (q : Int) ∧ q ≤ 1 := by
  refine ⟨v / 23, ?_, by omega⟩
  rw [Int.tdiv_eq_ediv_of_nonneg (by omega)]; rfl
theorem cells_off {w w' : World} {B : Nat} {ro : Option Addr} {xs : List Value} (h : CellsAt w ro xs) (hg : w.grownBy w' (some B)) (hne : ∀ a, ro = some a → B < a.block) : CellsAt w' ro xs :=
  h.grown hg (fun a ha => by have := hne a ha; simp only [ne_eq, Option.some.injEq]; omega)
set_option maxRecDepth 100000 in
set_option maxHeartbeats 2000000 in
/-- two permutations -/
theorem l92Pair_any (aC : Option Addr) (kC : Nat) (c : List UInt8) (w : World) (zC : c.length ≤ kC) (dC : c.length ≤ 1048576) (cC : CellsAt w aC (c.map byteV)) :
    Calls Try.prog 62 #[.slice aC c.length kC] w fun e w' => ∃ (ro : Option Addr) (rc : Nat) (l : List Int) (qo : Option Addr) (qc : Nat) (m : List Int), 1 ≤ l.length ∧ l.length ≤ 8 ∧ 1 ≤ m.length ∧ m.length ≤ 8 ∧ e = .returned (.tuple #[.slice ro l.length rc, .slice qo m.length qc]) ∧ CellsAt w' ro (l.map (Value.int .i64)) ∧ CellsAt w' qo (m.map (Value.int .i64)) ∧ Below w.heap.size w w' := by
  have HO := Lib.hid (l6Open_any aC kC c w zC dC cC)
  clear cC
  go_enter Try.func62, Try.ntmps62
  go_wp2_with fail
  refine HO.out.mono ?_
  rintro e w1 ⟨rfl, hr1, hb1⟩
  go_wp2_with fail
  refine (l92Perm_any 0 w.heap.size 4 _ (by omega) (by omega) (by omega) hr1).mono ?_
  rintro e w2 ⟨g, rc, l, h1, h8, rfl, ho, hg, hr2⟩
  have hb2 : Below w.heap.size w w2 := hb1.trans (below_of_grownBy hg hb1.size (fun k hk => by cases hk; exact Nat.le_refl _))
  have hgl := (owns_lt ho _ rfl).1
  have hBl := hr1.lt
  have hne : ∀ a : Addr, some (⟨g, 0, none⟩ : Addr) = some a → w.heap.size < a.block := fun a ha => by cases ha; simp at hgl; show w.heap.size < g; omega
  have HNE := Lib.hid hne
  have c_P := owns_cells ho
  clear hr1 hne ho hg hb1 hgl hBl
  have HL := Lib.hid h8; have HL1 := Lib.hid h1
  generalize hLL : l.length = L at *
  have HLL := Lib.hid hLL; clear hLL
  go_wp2_with fail
  refine (pick_any 10 w.heap.size 24 _ (by omega) hr2).mono ?_
  rintro e w3 ⟨v, rfl, hv, hr3, hg3⟩
  have hb3 : Below w.heap.size w w3 := hb2.trans (below_of_grownBy hg3 hb2.size (fun k hk => by cases hk; exact Nat.le_refl _))
  replace c_P := cells_off c_P hg3 HNE.out
  have hv4 : (v : Int) < 24 := by omega
  obtain ⟨q, hq, hq1⟩ := div23 hv4
  clear hb2 hg3 hv
  have hq3 : (3 : Int) + (q : Int) = ((3 + q : Nat) : Int) := by omega
  have hq4 : 3 + q ≤ 8 := by omega
  have hq5 : 1 ≤ 3 + q := by omega
  generalize 3 + q = Q at *
  go_wp2_with fail
  refine (l92Perm_any (10 + 1) w.heap.size Q _ (by omega) hq5 hq4 hr3).mono ?_
  rintro e w4 ⟨gq, qc, m, k1, k8, rfl, hoq, hgq, hr4⟩
  have hb4 : Below w.heap.size w w4 := hb3.trans (below_of_grownBy hgq hb3.size (fun k hk => by cases hk; exact Nat.le_refl _))
  replace c_P := cells_off c_P hgq HNE.out
  have c_Q := owns_cells hoq
  have h1 := HL1.out; have h8 := HL.out
  rw [← HLL.out] at h1 h8
  have HR := Lib.hid hr4
  clear hoq hgq hr3 hb3 hr4
  go_wp2
  go_ret2
  exact ⟨_, rc, l, _, qc, m, h1, h8, k1, k8, by rw [HLL.out]; rfl, c_P, c_Q, hb4⟩

theorem both_len {l m : List Int} (h : bothP l m = true) : (1 ≤ (asideO l m).length ∧ (asideO l m).length ≤ 8) ∧ (1 ≤ (underO l m).length ∧ (underO l m).length ≤ 8) := by
  obtain ⟨h1, h2, h7⟩ := bothP_yes h
  have := isP_pos h1
  unfold asideO underO
  rw [h, if_pos rfl, if_pos rfl, asideL_len, underL_len]
  omega
theorem cells_below {w w' : World} {ro : Option Addr} {xs : List Value} (h : CellsAt w ro xs) (hb : Below w.heap.size w w') : CellsAt w' ro xs := h.below hb
set_option maxRecDepth 100000 in
set_option maxHeartbeats 4000000 in
/-- a permutation that is often fair or loose -/
theorem l92Calm_any (aC : Option Addr) (kC : Nat) (c : List UInt8) (w : World) (zC : c.length ≤ kC) (dC : c.length ≤ 1048576) (cC : CellsAt w aC (c.map byteV)) :
    Calls Try.prog 56 #[.slice aC c.length kC] w fun e w' => ∃ (ro : Option Addr) (rc : Nat) (l : List Int), l.length ≤ 8 ∧ e = .returned (.slice ro l.length rc) ∧ CellsAt w' ro (l.map (Value.int .i64)) ∧ Below w.heap.size w w' := by
  have HO := Lib.hid (l6Open_any aC kC c w zC dC cC)
  clear cC
  go_enter Try.func56, Try.ntmps56
  go_wp2_with fail
  refine HO.out.mono ?_
  rintro e w1 ⟨rfl, hr1, hb1⟩
  go_wp2_with fail
  refine (pick_any 0 w.heap.size 3 _ (by omega) hr1).mono ?_
  rintro e w2 ⟨v, rfl, hv, hr2, hg2⟩
  have hb2 : Below w.heap.size w w2 := hb1.trans (below_of_grownBy hg2 hb1.size (fun k hk => by cases hk; exact Nat.le_refl _))
  clear hb1 hg2 hr1 hv
  by_cases hz : v = 0
  · have hzb : ((v : Int) == 0) = true := by rw [hz]; rfl
    clear hz
    go_wp2_with fail
    refine (l92Perm_any 1 w.heap.size 7 _ (by omega) (by omega) (by omega) hr2).mono ?_
    rintro e w3 ⟨g, rc, l, h1, h8, rfl, ho, hg, -⟩
    have hb3 : Below w.heap.size w w3 := hb2.trans (below_of_grownBy hg hb2.size (fun k hk => by cases hk; exact Nat.le_refl _))
    go_wp2
    go_ret
    exact ⟨_, rc, l, h8, rfl, owns_cells ho, hb3⟩
  · have hzb : ((v : Int) == 0) = false := by rw [beq_eq_false_iff_ne]; omega
    clear hz
    go_wp2_with fail
    refine (l92Perm_any 1 w.heap.size 2 _ (by omega) (by omega) (by omega) hr2).mono ?_
    rintro e w3 ⟨g, rc, l, h1, h8, rfl, ho, hg, hr3⟩
    have hb3 : Below w.heap.size w w3 := hb2.trans (below_of_grownBy hg hb2.size (fun k hk => by cases hk; exact Nat.le_refl _))
    have hgl := (owns_lt ho _ rfl).1
    have hBl := hr2.lt
    have hne : ∀ a : Addr, some (⟨g, 0, none⟩ : Addr) = some a → w.heap.size < a.block := fun a ha => by cases ha; simp at hgl; show w.heap.size < g; omega
    have c_P := owns_cells ho
    clear hr2 ho hg hb2 hgl hBl
    have HS := Lib.hid (⟨_, rc, l, rfl, h1, h8, c_P, hne⟩ : ∃ ro rc0 l0, (Value.slice (some ⟨g, 0, none⟩) l.length rc) = .slice ro (l0 : List Int).length rc0 ∧ 1 ≤ l0.length ∧ l0.length ≤ 8 ∧ CellsAt w3 ro (l0.map (Value.int .i64)) ∧ ∀ a, ro = some a → w.heap.size < a.block)
    clear h1 h8 c_P hne
    go_wp2
    go_loopw [4, 5, 6, 7] (fun vp vt _ _ wr => ∃ (t : Nat) (ro : Option Addr) (rc : Nat) (l : List Int), t ≤ 4 ∧ vt = .int .i64 t ∧ vp = .slice ro l.length rc ∧ 1 ≤ l.length ∧ l.length ≤ 8 ∧ CellsAt wr ro (l.map (Value.int .i64)) ∧ (∀ a, ro = some a → w.heap.size < a.block) ∧ RdAt (t * 30 + 20) w.heap.size wr ∧ Below w.heap.size w wr) (fun _ vt _ _ _ => 4 - (intOf vt).toNat)
    case atStart =>
      obtain ⟨ro, rc0, l0, e1, e2, e3, e4, e5⟩ := HS.out
      exact ⟨0, ro, rc0, l0, by omega, rfl, e1, e2, e3, e4, e5, hr3.mono (by omega), hb3⟩
    case round =>
      clear hr3 hb3 HS
      obtain ⟨t, ro, rc, l, ht, rfl, rfl, h1, h8, c_P, hne, hd, hB⟩ := hrel
      have HNE := Lib.hid hne; have HL1 := Lib.hid h1; have HL := Lib.hid h8
      clear hne h1 h8
      by_cases hlt : t < 4
      · go_wp2_with fail
        refine (l92Perm_any (t * 30 + 20) w.heap.size 2 _ (by omega) (by omega) (by omega) hd).mono ?_
        rintro e w4 ⟨gq, qc, m, k1, k8, rfl, hoq, hgq, hr4⟩
        have hb4 : Below w.heap.size w w4 := hB.trans (below_of_grownBy hgq hB.size (fun k hk => by cases hk; exact Nat.le_refl _))
        replace c_P := cells_off c_P hgq HNE.out
        have c_Q := owns_cells hoq
        have HPA := Lib.hid (specPermAside_any ro _ rc qc l m w4 (by have := HL.out; omega) (by omega) c_P c_Q)
        have hB4 := hr4.lt
        clear hd hB hoq hgq k1 k8
        go_wp2_with fail
        refine HPA.out.mono ?_
        rintro e w5 ⟨⟨roZ, rcZ, rfl, ow⟩, hb5⟩
        have hZ := fun h => (both_len (l := l) (m := m) h).1
        have hzl := fun a ha => (owns_lt ow a ha).1
        have HNZ := Lib.hid (show ∀ a, roZ = some a → w.heap.size < a.block from fun a ha => by have := hzl a ha; omega)
        have c_Z := owns_cells ow
        replace c_P := c_P.below hb5
        have hrF := hr4.below hb5
        have hB5 := below_step hb4 hb4.size hb5
        clear HPA c_Q hr4 hb4 ow hzl hB4 hb5
        generalize asideO l m = Z at *
        generalize bothP l m = b at *
        skip
        generalize hLL : l.length = L at *
        have HLL := Lib.hid hLL; clear hLL
        generalize hZZ : Z.length = zl at *
        have HZZ := Lib.hid hZZ; clear hZZ
        go_wp2_with fail
        refine (pick_any _ w.heap.size 2 _ (by omega) hrF).mono ?_
        rintro e w6 ⟨u, rfl, hu, hr6, hg6⟩
        have hb6 : Below w.heap.size w w6 := hB5.trans (below_of_grownBy hg6 hB5.size (fun k hk => by cases hk; exact Nat.le_refl _))
        replace c_P := cells_off c_P hg6 HNE.out
        replace c_Z := cells_off c_Z hg6 HNZ.out
        clear hrF hB5 hg6 hu
        by_cases huz : u = 0
        · have hub : ((u : Int) == 0) = true := by rw [huz]; rfl
          clear huz
          go_wp2_with fail
          refine (l92Perm_any _ w.heap.size 2 _ (by omega) (by omega) (by omega) hr6).mono ?_
          rintro e w7 ⟨g2, qc2, m, k1, k8, rfl, ho2, hg7, hr7⟩
          have hb7 : Below w.heap.size w w7 := hb6.trans (below_of_grownBy hg7 hb6.size (fun k hk => by cases hk; exact Nat.le_refl _))
          replace c_P := cells_off c_P hg7 HNE.out
          have c_Q := owns_cells ho2
          have HPU := Lib.hid (specPermUnder_any ro _ rc qc2 l m w7 (by have := HL.out; have := HLL.out; omega) (by omega) c_P c_Q)
          rw [HLL.out] at HPU
          have hB7 := hr7.lt
          clear hr6 hb6 ho2 hg7 k1 k8 c_Z
          go_wp2_with fail
          refine HPU.out.mono ?_
          rintro e w8 ⟨⟨roY, rcY, rfl, ow⟩, hb8⟩
          have hZ2 := fun h => (both_len (l := l) (m := m) h).2
          have hzl := fun a ha => (owns_lt ow a ha).1
          have HNZ2 := Lib.hid (show ∀ a, roY = some a → w.heap.size < a.block from fun a ha => by have := hzl a ha; omega)
          have c_Z2 := owns_cells ow
          replace c_P := c_P.below hb8
          have hrF := hr7.below hb8
          have HBF := Lib.hid (below_step hb7 hb7.size hb8)
          clear HPU c_Q hr7 hb7 ow hzl hB7 hb8
          generalize underO l m = Z2 at *
          generalize bothP l m = b2 at *
          skip
          cases hb : b2
          · skip
            clear hb
            go_wp2
            go_roundw
            case rel => exact ⟨t + 1, _, _, _, by omega, by go_num, by rw [HLL.out], by rw [HLL.out]; exact HL1.out, by rw [HLL.out]; exact HL.out, c_P, HNE.out, hrF.mono (by omega), HBF.out⟩
            case measure => simp [intOf]; omega
          · skip
            obtain ⟨z1, z8⟩ := hZ2 hb
            have Z1 := Lib.hid z1; have Z8 := Lib.hid z8
            clear z1 z8
            clear hb
            go_wp2
            go_roundw
            case rel => exact ⟨t + 1, _, _, _, by omega, by go_num, rfl, Z1.out, Z8.out, c_Z2, HNZ2.out, hrF.mono (by omega), HBF.out⟩
            case measure => simp [intOf]; omega
        · have hub : ((u : Int) == 0) = false := by rw [beq_eq_false_iff_ne]; omega
          clear huz
          have hrF := hr6; have HBF := Lib.hid hb6
          clear hr6 hb6
          cases hb : b
          · skip
            clear hb
            go_wp2
            go_roundw
            case rel => exact ⟨t + 1, _, _, _, by omega, by go_num, by rw [HLL.out], by rw [HLL.out]; exact HL1.out, by rw [HLL.out]; exact HL.out, c_P, HNE.out, hrF.mono (by omega), HBF.out⟩
            case measure => simp [intOf]; omega
          · skip
            obtain ⟨z1, z8⟩ := hZ hb
            have Z1 := Lib.hid z1; have Z8 := Lib.hid z8
            clear z1 z8
            clear hb
            go_wp2
            go_roundw
            case rel => exact ⟨t + 1, _, _, Z, by omega, by go_num, by rw [HZZ.out], by rw [HZZ.out]; exact Z1.out, by rw [HZZ.out]; exact Z8.out, c_Z, HNZ.out, hrF.mono (by omega), HBF.out⟩
            case measure => simp [intOf]; omega
      · obtain rfl : t = 4 := by omega
        go_wp2
        go_ret
        exact ⟨ro, rc, l, HL.out, rfl, c_P, hB⟩
set_option maxRecDepth 100000 in
theorem drawPermFair_any (aC : Option Addr) (kC : Nat) (c : List UInt8) (w : World) (zC : c.length ≤ kC) (dC : c.length ≤ 1048576) (cC : CellsAt w aC (c.map byteV)) :
    Calls Try.prog 20 #[.slice aC c.length kC] w fun e w' => ∃ (ro : Option Addr) (rc : Nat) (l : List Int), l.length ≤ 8 ∧ e = .returned (.slice ro l.length rc) ∧ CellsAt w' ro (l.map (Value.int .i64)) ∧ Below w.heap.size w w' := by
  have HN := Lib.hid (l92Calm_any aC kC c w zC dC cC)
  clear cC
  go_enter Try.func20, Try.ntmps20
  go_wp2_with fail
  refine HN.out.mono ?_
  rintro e w1 ⟨ro, rc, l, h8, rfl, ho, hb⟩
  go_wp2
  go_ret
  exact ⟨_, rc, l, h8, rfl, ho, hb⟩
set_option maxRecDepth 100000 in
theorem drawPermLoose_any (aC : Option Addr) (kC : Nat) (c : List UInt8) (w : World) (zC : c.length ≤ kC) (dC : c.length ≤ 1048576) (cC : CellsAt w aC (c.map byteV)) :
    Calls Try.prog 23 #[.slice aC c.length kC] w fun e w' => ∃ (ro : Option Addr) (rc : Nat) (l : List Int), l.length ≤ 8 ∧ e = .returned (.slice ro l.length rc) ∧ CellsAt w' ro (l.map (Value.int .i64)) ∧ Below w.heap.size w w' := by
  have HN := Lib.hid (l92Calm_any aC kC c w zC dC cC)
  clear cC
  go_enter Try.func23, Try.ntmps23
  go_wp2_with fail
  refine HN.out.mono ?_
  rintro e w1 ⟨ro, rc, l, h8, rfl, ho, hb⟩
  go_wp2
  go_ret
  exact ⟨_, rc, l, h8, rfl, ho, hb⟩
set_option maxRecDepth 100000 in
theorem drawPermAside_any (aC : Option Addr) (kC : Nat) (c : List UInt8) (w : World) (zC : c.length ≤ kC) (dC : c.length ≤ 1048576) (cC : CellsAt w aC (c.map byteV)) :
    Calls Try.prog 31 #[.slice aC c.length kC] w fun e w' => ∃ (ro : Option Addr) (rc : Nat) (l : List Int) (qo : Option Addr) (qc : Nat) (m : List Int), 1 ≤ l.length ∧ l.length ≤ 8 ∧ 1 ≤ m.length ∧ m.length ≤ 8 ∧ e = .returned (.tuple #[.slice ro l.length rc, .slice qo m.length qc]) ∧ CellsAt w' ro (l.map (Value.int .i64)) ∧ CellsAt w' qo (m.map (Value.int .i64)) ∧ Below w.heap.size w w' := by
  have HN := Lib.hid (l92Pair_any aC kC c w zC dC cC)
  clear cC
  go_enter Try.func31, Try.ntmps31
  go_wp2_with fail
  refine HN.out.mono ?_
  rintro e w1 ⟨ro, rc, l, qo, qc, m, h1, h8, k1, k8, rfl, ho, hq, hb⟩
  go_wp2
  go_ret2
  exact ⟨_, rc, l, _, qc, m, h1, h8, k1, k8, rfl, ho, hq, hb⟩
set_option maxRecDepth 100000 in
theorem drawPermUnder_any (aC : Option Addr) (kC : Nat) (c : List UInt8) (w : World) (zC : c.length ≤ kC) (dC : c.length ≤ 1048576) (cC : CellsAt w aC (c.map byteV)) :
    Calls Try.prog 34 #[.slice aC c.length kC] w fun e w' => ∃ (ro : Option Addr) (rc : Nat) (l : List Int) (qo : Option Addr) (qc : Nat) (m : List Int), 1 ≤ l.length ∧ l.length ≤ 8 ∧ 1 ≤ m.length ∧ m.length ≤ 8 ∧ e = .returned (.tuple #[.slice ro l.length rc, .slice qo m.length qc]) ∧ CellsAt w' ro (l.map (Value.int .i64)) ∧ CellsAt w' qo (m.map (Value.int .i64)) ∧ Below w.heap.size w w' := by
  have HN := Lib.hid (l92Pair_any aC kC c w zC dC cC)
  clear cC
  go_enter Try.func34, Try.ntmps34
  go_wp2_with fail
  refine HN.out.mono ?_
  rintro e w1 ⟨ro, rc, l, qo, qc, m, h1, h8, k1, k8, rfl, ho, hq, hb⟩
  go_wp2
  go_ret2
  exact ⟨_, rc, l, _, qc, m, h1, h8, k1, k8, rfl, ho, hq, hb⟩

end Go.Proofs.Ytnkfopnkgingpaa
