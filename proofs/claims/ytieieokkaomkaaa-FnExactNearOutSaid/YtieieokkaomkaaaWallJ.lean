
/-
  The program's walls, all of them, in order. (Walk.)
-/
import Derived.Test.YtieieokkaomkaaaWallI
import Derived.Test.YtieieokkaomkaaaRowK
import Derived.Laws.StructEq
namespace Go.Proofs.Ytieieokkaomkaaa
open Go.RowKit

/-- two walls are not the same -/
def neW (x y : Wl) : Bool := !(decide (x.way = y.way) && decide (x.line = y.line) && decide (x.first = y.first) && decide (x.long = y.long))
theorem neW_self (x : Wl) : neW x x = false := by simp [neW]
theorem neW_first {x y : Wl} (h : x.first ≠ y.first) : neW x y = true := by simp [neW, h]
theorem neW_line {x y : Wl} (h : x.line ≠ y.line) : neW x y = true := by simp [neW, h]
theorem neW_iff {x y : Wl} : neW x y = false ↔ x = y := by
  constructor
  · intro h
    cases x; cases y
    simp [neW] at h
    simp [h]
  · rintro rfl; exact neW_self x

theorem run_neq_wl (x y : Wl) (w : World) : (binOp .neq 67 (.agg (wlC x)) (.agg (wlC y))).run Try.prog w = .ok (.bool (neW x y)) w := by
  have u3 := Try.underlying3
  have a3 := Try.isAgg3
  have z3 := Try.sizeOf3
  have hS : Try.prog.underlying 67 = some (.struct (Try.prog.fieldsOf 67)) := by kernel_rfl
  have hp : Try.prog.stoodInHeld 67 = false := by kernel_rfl
  have h : (Op.equalIn 10000 67 (.agg (wlC x)) (.agg (wlC y))).run Try.prog w = .ok (!neW x y) w := by
    rw [show (10000 : Nat) = 9999 + 1 from rfl, run_equalIn_agg w 9999 67 _ _ hS hp]
    simp only [Program.fieldsOf, Try.underlying67, wlC]
    go_simp
    unfold neW
    by_cases h1 : x.way = y.way <;> by_cases h2 : x.line = y.line <;> by_cases h3 : x.first = y.first <;> by_cases h4 : x.long = y.long <;> simp [h1, h2, h3, h4] <;> omega
  simp only [binOp]
  simp [Op.equal, Op.maxDepth, h]

theorem Try.guardWl : Try.prog.eqGuardType Try.prog.depth 67 = false := by kernel_rfl
theorem guard_wl (op : BinOp) (x y : Operand) (A B : Array Value) (w : World) : (eqGuard op 67 x y (.agg A) (.agg B)).run Try.prog w = .ok () w := by
  unfold eqGuard
  cases op <;> first | (simp; done) | simp [Try.guardWl]

def wlsC (L : List Wl) : List Value := L.flatMap fun x => (wlC x).toList
theorem wlsC_snoc (L : List Wl) (x : Wl) : wlsC (L ++ [x]) = wlsC L ++ (wlC x).toList := by simp [wlsC]
theorem wlsC_len (L : List Wl) : (wlsC L).length = L.length * 4 := by
  induction L with
  | nil => rfl
  | cons x L ih => unfold wlsC at ih ⊢; rw [List.flatMap_cons, List.length_append, ih, List.length_cons, Nat.succ_mul]; simp [wlC]; omega
theorem wlsC_at (L : List Wl) (k j : Nat) (hk : k < L.length) (hj : j < 4) : (wlsC L)[k * 4 + j]? = (wlC (L.getD k zeroWl))[j]? := by
  induction L generalizing k with
  | nil => simp at hk
  | cons x L ih =>
    unfold wlsC at ih ⊢
    rw [List.flatMap_cons]
    cases k with
    | zero => rw [Nat.zero_mul, Nat.zero_add, List.getElem?_append_left (by simp [wlC]; omega)]; simp
    | succ k =>
      rw [List.getElem?_append_right (by simp [wlC]; omega), show (k + 1) * 4 + j - (wlC x).toList.length = k * 4 + j from by simp [wlC]; omega]
      rw [ih k (by simp at hk; omega)]
      simp

/-- the walls of one line, told by its runs -/
def lineL (way k : Nat) (l : List (Nat × Nat)) : List Wl := l.map fun x => ⟨way, k, x.1, x.2⟩
def lastW (way k : Nat) (l : List (Nat × Nat)) : Wl := match l.getLast? with | some x => ⟨way, k, x.1, x.2⟩ | none => zeroWl

theorem wall_no {g : Nat → Nat → Nat} {n way k j : Nat} (h : partedB g way k j = false) : lineW (partedB g way k) n (j + 1) = lineW (partedB g way k) n j := lineW_no h
theorem wall_new {g : Nat → Nat → Nat} {n way k j : Nat} (hk : 1 ≤ k) (h : partedB g way k j = true) (hd : downTo (partedB g way k) j = j) :
    lineL way k (lineW (partedB g way k) n (j + 1)) = lineL way k (lineW (partedB g way k) n j) ++ [wallAtW g n way k j] ∧ lastW way k (lineW (partedB g way k) n (j + 1)) = wallAtW g n way k j ∧
    neW (wallAtW g n way k j) (lastW way k (lineW (partedB g way k) n j)) = true := by
  have hw : wallAtW g n way k j = ⟨way, k, j, runFrom (partedB g way k) n j⟩ := by unfold wallAtW; rw [if_pos h, hd]
  rw [hw, lineW_new h hd]
  refine ⟨by simp [lineL], by simp [lastW], ?_⟩
  unfold lastW
  split
  · rename_i x hx
    have := lineW_mem (List.mem_of_getLast? hx)
    exact neW_first (by show j ≠ x.1; omega)
  · exact neW_line (by show k ≠ 0; omega)
theorem wall_on {g : Nat → Nat → Nat} {n way k j : Nat} (h : partedB g way k j = true) (hd : ¬ downTo (partedB g way k) j = j) :
    lineW (partedB g way k) n (j + 1) = lineW (partedB g way k) n j ∧ neW (wallAtW g n way k j) (lastW way k (lineW (partedB g way k) n j)) = false := by
  refine ⟨lineW_on hd, ?_⟩
  have hj : 0 < j := by
    rcases Nat.eq_zero_or_pos j with rfl | h'
    · exact absurd rfl hd
    · exact h'
  have hp : partedB g way k (j - 1) = true := by
    cases hf : partedB g way k (j - 1)
    · exact absurd (downTo_here (.inr hf)) hd
    · rfl
  obtain ⟨init, hi⟩ := lineW_last (n := n) j hj hp
  rw [neW_iff, hi]
  unfold wallAtW lastW
  rw [if_pos h]
  simp

/-- the walls of the ways ahead of one -/
def waysW (h wd : Nat) (g : Nat → Nat → Nat) : Nat → List Wl
  | 0 => []
  | t + 1 => waysW h wd g t ++ linesW t (partedB g t) (alongN h wd t) (acrossN h wd t)

theorem waysW_two (h wd : Nat) (g : Nat → Nat → Nat) : waysW h wd g 2 = wallsG h wd g := by
  unfold waysW waysW waysW
  rw [List.nil_append, wallsG_two]
  congr 1
  · refine linesW_congr fun l i _ _ hi => ?_
    unfold wayF upF partedB sideA sideB
    simp only [if_true]
    rw [show alongN h wd 0 = h from rfl] at hi
    simp [hi]
  · refine linesW_congr fun l i _ _ hi => ?_
    unfold wayF lvF partedB sideA sideB
    rw [show alongN h wd 1 = wd from rfl] at hi
    simp [hi]

theorem linesP_step (way k : Nat) (F : Nat → Nat → Bool) (n : Nat) (hk : 1 ≤ k) : linesW way F n (k + 1) = linesW way F n k ++ lineL way k (lineW (F k) n n) := linesW_succ hk

theorem waysW_len {h wd : Nat} {g : Nat → Nat → Nat} (hh : h ≤ 6) (hw : wd ≤ 6) : ∀ t, (waysW h wd g t).length ≤ t * 36
  | 0 => Nat.le_refl _
  | t + 1 => by
    have := waysW_len (g := g) hh hw t
    unfold waysW
    rw [List.length_append, Nat.succ_mul]
    have h2 := linesW_len t (partedB g t) (alongN h wd t) (acrossN h wd t)
    have h3 : acrossN h wd t * alongN h wd t ≤ 6 * 6 := Nat.mul_le_mul (by unfold acrossN; split <;> omega) (by unfold alongN; split <;> omega)
    omega

theorem Try.infoWl : (Try.prog.info? 67).map (fun i => (i.zero, i.size, i.bytes)) = some (some (.agg (wlC zeroWl)), 4, 32) := by kernel_rfl

theorem build_wl (X : Wl) (w : World) : (Instr.buildSlice 60 1 #[(0, .agg (wlC X))]).run Try.prog w = .ok (.slice (some ⟨w.heap.size, 0, none⟩) 1 1) (w.alloc (.cells (wlC X) 67)) := by
  obtain ⟨iw, hwi, hwz, hw1, hw2⟩ := info_parts Try.infoWl
  exact run_buildSlice w _ _ 1 _ (wlC X) iw _ Try.underlying60 hwi hwz (by rw [hw1]; decide) (by rw [hw1]; decide) (by rw [hw1]; kernel_rfl)

theorem wlC_ones {X : Wl} : ∀ v ∈ (wlC X).toList, v.oneCell' = true := fun v hv => by
  have := Array.all_eq_true_iff_forall_mem.1 (wlC_one X) v (by simpa using hv)
  exact this

/-- what lies in memory while walls are gathered -/
def WallsSt (w : World) (C : Array Value) (L : List Wl) (ro : Option Addr) (rc : Nat) (wr : World) : Prop :=
  wr.ownsRow (w.heap.size + 2) 67 4 (.slice ro L.length rc) L.length (wlsC L) ∧ HeldB wr w.heap.size 38 C ∧ HeldB wr (w.heap.size + 1) 3 #[.int .i64 0, .int .i64 1] ∧ w.heap.size + 2 ≤ wr.heap.size ∧ Below w.heap.size w wr

theorem WallsSt.below {w : World} {C : Array Value} {L : List Wl} {ro : Option Addr} {rc : Nat} {wr w1 : World} (h : WallsSt w C L ro rc wr) (hb : Below wr.heap.size wr w1) : WallsSt w C L ro rc w1 :=
  ⟨ownsRow_below h.1 hb, h.2.1.below hb, h.2.2.1.below hb, Nat.le_trans h.2.2.2.1 hb.size, below_step h.2.2.2.2 h.2.2.2.2.size hb⟩
theorem WallsSt.plan {w : World} {C : Array Value} {L : List Wl} {ro : Option Addr} {rc : Nat} {wr : World} (h : WallsSt w C L ro rc wr) : HeldB wr w.heap.size 38 C := h.2.1
theorem WallsSt.eq {w : World} {C : Array Value} {L L' : List Wl} {ro : Option Addr} {rc : Nat} {wr : World} (h : WallsSt w C L ro rc wr) (he : L = L') : WallsSt w C L' ro rc wr := he ▸ h

set_option maxRecDepth 100000 in
set_option maxHeartbeats 4000000 in
theorem walls_any (h wd r : Nat) (g : Nat → Nat → Nat) (w : World) (hh : h ≤ 6) (hw : wd ≤ 6) :
    Calls Try.prog 47 #[.agg (planC h wd r g)] w
      fun e w' => ∃ ro rc, e = .returned (.slice ro (wallsG h wd g).length rc) ∧ w'.ownsRow w.heap.size 67 4 (.slice ro (wallsG h wd g).length rc) (wallsG h wd g).length (wlsC (wallsG h wd g)) ∧ Below w.heap.size w w' := by
  obtain ⟨iw, hwi, hwz, hw1, hw2⟩ := info_parts Try.infoWl
  have HME := Lib.hid (fun way w => measure_any h wd r g way w)
  have HWA := Lib.hid (fun (way line i : Nat) (h1 : 1 ≤ line) (h2 : line < 6) (h3 : i < alongN h wd way) (h4 : alongN h wd way ≤ 6) w => wallAt_any h wd r g way line i w h1 h2 h3 h4)
  have HCS := Lib.hid (planC_size h wd r g)
  have HAL := Lib.hid (fun t => (show alongN h wd t ≤ 6 by unfold alongN; split <;> omega))
  have HAC := Lib.hid (fun t => (show acrossN h wd t ≤ 6 by unfold acrossN; split <;> omega))
  have HLE := Lib.hid (fun t => waysW_len (g := g) hh hw t)
  rw [← waysW_two]
  generalize planC h wd r g = C at *
  have hsz : (Try.prog.info? 38).map (·.size) = some C.size := by rw [HCS.out]; kernel_rfl
  have HSZ := Lib.hid hsz; clear hsz
  go_enter Try.func47, Try.ntmps47
  go_wp2
  have bP : HeldB ((w.alloc (.cells C 38)).alloc (.cells #[.int .i64 0, .int .i64 1] 3)) w.heap.size 38 C := (HeldB.new w _ _).alloc _
  have bZ : HeldB ((w.alloc (.cells C 38)).alloc (.cells #[.int .i64 0, .int .i64 1] 3)) (w.heap.size + 1) 3 #[.int .i64 0, .int .i64 1] := by
    have := HeldB.new (w.alloc (.cells C 38)) 3 #[.int .i64 0, .int .i64 1]
    rwa [World.size_alloc] at this
  have hB0 : Below w.heap.size w ((w.alloc (.cells C 38)).alloc (.cells #[.int .i64 0, .int .i64 1] 3)) := ((Below.refl _ w).alloc (Nat.le_refl _) _).alloc (by simp) _
  have hs0 : w.heap.size + 2 ≤ ((w.alloc (.cells C 38)).alloc (.cells #[.int .i64 0, .int .i64 1] 3)).heap.size := by simp
  go_loopw [3, 15] (fun vs vt wr => ∃ (t : Nat) (ro : Option Addr) (rc : Nat), t ≤ 2 ∧ vt = .int .i64 t ∧ vs = .slice ro (waysW h wd g t).length rc ∧ WallsSt w C (waysW h wd g t) ro rc wr) (fun _ vt _ => 2 - (intOf vt).toNat)
  case atStart => exact ⟨0, none, 0, by omega, rfl, rfl, ⟨rfl, .inl ⟨rfl, rfl⟩⟩, bP, bZ, hs0, hB0⟩
  case round =>
    clear bP bZ hB0 hs0
    obtain ⟨t, ro, rc, ht, rfl, rfl, hst⟩ := hrel
    by_cases htl : t < 2
    · have bP := hst.plan
      have ct : wr.cell? ⟨w.heap.size + 1, t, none⟩ = some (.int .i64 t) := by
        rw [hst.2.2.1.cell t]
        rcases (show t = 0 ∨ t = 1 by omega) with rfl | rfl <;> rfl
      have htl' : decide ((t : Int) < 2) = true := by rw [decide_eq_true_eq]; omega
      go_wp2_with (first
        | (refine wpList_load_row rfl 38 _ rfl w.heap.size rfl 38 C (0, 0) _ bP Try.underlying38 rfl HSZ.out ?_)
        | (go_at_call 55; refine (HME.out t _).mono ?_; rintro e w1 ⟨rfl, hb1⟩))
      have hst1 := hst.below hb1
      have hA := HLE.out t
      have hn := HAL.out t
      have hm := HAC.out t
      have HWT := Lib.hid (show waysW h wd g (t + 1) = waysW h wd g t ++ linesW t (partedB g t) (alongN h wd t) (acrossN h wd t) from rfl)
      have HWA2 := Lib.hid (fun (line i : Nat) (h1 : 1 ≤ line) (h2 : line < 6) (h3 : i < alongN h wd t) w => HWA.out t line i h1 h2 h3 (HAL.out t) w)
      clear bP ct hst hb1 htl'
      generalize waysW h wd g t = A at *
      generalize alongN h wd t = n at *
      generalize acrossN h wd t = m at *
      have HLL := Lib.hid (fun k => linesW_len t (partedB g t) n k)
      obtain ⟨W1, hW1⟩ : ∃ W1, W1 = w1 := ⟨_, rfl⟩
      go_loopw [3, 8] (fun vs vk wq => ∃ (k : Nat) (ro : Option Addr) (rc : Nat), 1 ≤ k ∧ (k ≤ m ∨ k = 1) ∧ vk = .int .i64 k ∧ vs = .slice ro (A ++ linesW t (partedB g t) n k).length rc ∧ WallsSt w C (A ++ linesW t (partedB g t) n k) ro rc wq) (fun _ vk _ => m - (intOf vk).toNat)
      case atStart => exact ⟨1, ro, rc, Nat.le_refl _, .inr rfl, rfl, by rw [linesW_one, List.append_nil], by rw [linesW_one, List.append_nil]; exact hst1⟩
      case round =>
        clear hst1
        obtain ⟨k, ro, rc, hk1, hk2, rfl, rfl, hst⟩ := hrel
        obtain ⟨wq, rfl⟩ : ∃ wq, wq = wr := ⟨_, rfl⟩
        by_cases hkm : k < m
        · have hkm' : decide ((k : Int) < (m : Int)) = true := by rw [decide_eq_true_eq]; omega
          have HSTP := Lib.hid (linesP_step t k (partedB g t) n hk1)
          have hLk := HLL.out k
          have hkn : k * n ≤ 5 * 6 := Nat.mul_le_mul (by omega) hn
          have hAk : (A ++ linesW t (partedB g t) n k).length ≤ 100 := by rw [List.length_append]; omega
          generalize hBL : A ++ linesW t (partedB g t) n k = BL at *
          have HBL := Lib.hid hBL; clear hBL
          have hqs := hst.2.2.2.1
          go_wp2
          go_loopw [3, 31] (fun vs vj wm => ∃ (j : Nat) (ro : Option Addr) (rc : Nat), j ≤ n ∧ vj = .int .i64 j ∧ vs = .slice ro (BL ++ lineL t k (lineW (partedB g t k) n j)).length rc ∧ WallsSt w C (BL ++ lineL t k (lineW (partedB g t k) n j)) ro rc wm ∧
            HeldB wm wq.heap.size 67 (wlC (lastW t k (lineW (partedB g t k) n j))) ∧ (∀ a, ro = some a → a.block ≠ wq.heap.size)) (fun _ vj _ => n - (intOf vj).toNat)
          case atStart => exact ⟨0, ro, rc, Nat.zero_le _, rfl, by rw [show lineL t k (lineW (partedB g t k) n 0) = [] from rfl, List.append_nil], by rw [show lineL t k (lineW (partedB g t k) n 0) = [] from rfl, List.append_nil]; exact hst.below (below_alloc _ _), HeldB.new _ _ _, fun a ha => by have := (owns_lt hst.1 a ha).2; omega⟩
          case round =>
            clear hst
            obtain ⟨j, ro, rc, hj, rfl, rfl, hst, bL, hap⟩ := hrel
            by_cases hjn : j < n
            · have hjn' : decide ((j : Int) < (n : Int)) = true := by rw [decide_eq_true_eq]; omega
              have bP := hst.plan
              have HW := Lib.hid (HWA2.out k j hk1 (by omega) hjn)
              cases hp : partedB g t k j
              · have HNO := Lib.hid (wall_no (n := n) hp)
                have HW2 := Lib.hid (fun w => by have := HW.out w; rw [hp] at this; exact this)
                clear HW hp
                generalize lineW (partedB g t k) n j = l at *
                generalize wallAtW g n t k j = X at *
                go_wp2_with (first
                  | (refine wpList_load_row rfl 38 _ rfl w.heap.size rfl 38 C (0, 0) _ bP Try.underlying38 rfl HSZ.out ?_)
                  | (refine wpList_store_new rfl 67 _ _ rfl _ (wlC zeroWl) _ rfl rfl rfl (wl_size _) rfl (wlC_one _) ?_)
                  | (go_at_call 56; refine (HW2.out _).mono ?_; rintro e w2 ⟨rfl, hb2⟩))
                have hst2 := (hst.below hb2).below (below_alloc w2 (.cells (wlC X) 67))
                have bL2 := (bL.below hb2).alloc (.cells (wlC X) 67)
                go_roundw
                case rel => exact ⟨j + 1, ro, rc, by omega, by go_num, by rw [HNO.out]; simp, by rw [HNO.out]; exact hst2, by rw [HNO.out]; exact bL2, hap⟩
                case measure => simp [intOf]; omega
              · have HW2 := Lib.hid (fun w => by have := HW.out w; rw [hp] at this; exact this)
                by_cases hd : downTo (partedB g t k) j = j
                · obtain ⟨e1, e2, hne⟩ := wall_new (n := n) hk1 hp hd
                  have HE1 := Lib.hid e1; have HE2 := Lib.hid e2
                  have hlen := lineW_len (partedB g t k) n j
                  clear e1 e2 HW hp hd
                  generalize lineW (partedB g t k) n j = l at *
                  generalize wallAtW g n t k j = X at *
                  obtain ⟨LA, hLA⟩ : ∃ LA, lastW t k l = LA := ⟨_, rfl⟩
                  rw [hLA] at hne bL
                  clear hLA
                  have HRUN := Lib.hid (fun w => by have := run_neq_wl X LA w; rw [hne] at this; exact this)
                  have HLEN : Hid ((BL ++ lineL t k l).length ≤ 106) := Lib.hid (by unfold lineL; rw [List.length_append, List.length_map]; omega)
                  generalize hBQ : BL ++ lineL t k l = BQ at *
                  have hbl := HLEN.out
                  have hown := hst.1
                  have hlt := owns_lt hown
                  have hrs := hst.2.2.2.1
                  have h63 : BQ.length + 1 ≤ maxLen := by unfold maxLen; omega
                  go_wp2_with (first
                    | (refine wpList_load_row rfl 38 _ rfl w.heap.size rfl 38 C (0, 0) _ bP Try.underlying38 rfl HSZ.out ?_)
                    | (refine wpList_store_new rfl 67 _ _ rfl _ (wlC zeroWl) _ rfl rfl rfl (wl_size _) rfl (wlC_one _) ?_)
                    | (refine wpList_load_row_guard rfl 67 _ rfl w2.heap.size rfl 67 (wlC X) (0, 0) _ (HeldB.new w2 _ _) Try.underlying67 rfl (wl_size _) ?_)
                    | (refine wpList_load_row_guard rfl 67 _ rfl wq.heap.size rfl 67 (wlC LA) (0, 0) _ ((bL.below hb2).alloc _) Try.underlying67 rfl (wl_size _) ?_)
                    | (refine wpList_load_row rfl 67 _ rfl w2.heap.size rfl 67 (wlC X) (0, 0) _ (HeldB.new w2 _ _) Try.underlying67 rfl (wl_size _) ?_)
                    | (refine wpList_bin (by rfl) .neq 67 _ _ _ rfl (.bool true) (guard_wl _ _ _ _ _ _) (HRUN.out _) ?_)
                    | (refine wpList_build1 rfl _ 67 _ rfl (wlC X) rfl (build_wl X _) ?_)
                    | (at_builtin; go_loud (refine wpList_pushK _ rfl _ _ 60 rfl (w.heap.size + 2) 67 iw (.agg (wlC zeroWl)) 4 32 Try.underlying60 hwi hwz hw1 hw2 rfl (by decide) ro BQ.length rc _ rfl (ownsRow_below (ownsRow_below (ownsRow_below hown hb2) (below_alloc _ _)) (below_alloc _ _)) (wlC X).toList 1 _ 0 1 rfl (by decide) rfl (cells_new _ _ _) wlC_ones h63 (by omega) (by simp; omega) ?_); intro ao2 cap2 w3 hown3 hg3 hnew3; have bW3 := kept_own ((HeldB.new w2 67 (wlC X)).alloc _) hg3 (fun a ha => by have := (hlt a ha).2; omega); have bL3 := kept_own (((bL.below hb2).alloc _).alloc _) hg3 hap)
                    | (refine wpList_load_row rfl 67 _ rfl w2.heap.size rfl 67 (wlC X) (0, 0) _ bW3 Try.underlying67 rfl (wl_size _) ?_)
                    | (refine wpList_store_row rfl 67 _ _ rfl wq.heap.size (wlC X) rfl rfl 67 (wlC LA) bL3 (wl_size _) rfl (wlC_one _) ?_)
                    | (go_at_call 56; refine (HW2.out _).mono ?_; rintro e w2 ⟨rfl, hb2⟩; have hbs2 := hb2.size))
                  have hst2 := ((hst.below hb2).below (below_alloc w2 (.cells (wlC X) 67))).below (below_alloc _ (.cells (wlC X) 67))
                  have hap3 := grown_lt hnew3 hap (by have := bL.lt; simp; omega)
                  have hne1 : ∀ a, ro = some a → a.block ≠ w.heap.size := fun a ha => by have := (hlt a ha).1; omega
                  have hne2 : ∀ a, ro = some a → a.block ≠ w.heap.size + 1 := fun a ha => by have := (hlt a ha).1; omega
                  have hst3 : WallsSt w C (BQ ++ [X]) ao2 cap2 (w3.setRow wq.heap.size (wlC X)) := by
                    refine ⟨?_, (kept_own hst2.2.1 hg3 hne1).otherRow (by omega) _, (kept_own hst2.2.2.1 hg3 hne2).otherRow (by omega) _, ?_, below_setRowB (below_of_grownBy' hst2.2.2.2.2 hg3 (fun a ha => by have := (hlt a ha).1; omega)) (by omega) _⟩
                    · rw [List.length_append, wlsC_snoc]
                      exact owns_setRow hown3 hap3 _
                    · have := hst2.2.2.2.1; have := hg3.size; simp; omega
                  go_roundw
                  case rel => exact ⟨j + 1, ao2, cap2, by omega, by go_num, by rw [HE1.out, ← List.append_assoc, hBQ, List.length_append]; rfl, by rw [HE1.out, ← List.append_assoc, hBQ]; exact hst3, by rw [HE2.out]; exact bL3.setRow _, hap3⟩
                  case measure => simp [intOf]; omega
                · obtain ⟨e1, hne⟩ := wall_on (n := n) hp hd
                  have HE1 := Lib.hid e1
                  clear e1 HW hp hd
                  generalize lineW (partedB g t k) n j = l at *
                  generalize wallAtW g n t k j = X at *
                  obtain ⟨LA, hLA⟩ : ∃ LA, lastW t k l = LA := ⟨_, rfl⟩
                  rw [hLA] at hne bL
                  have HLA := Lib.hid hLA
                  clear hLA
                  have HRUN := Lib.hid (fun w => by have := run_neq_wl X LA w; rw [hne] at this; exact this)
                  generalize hBQ : BL ++ lineL t k l = BQ at *
                  go_wp2_with (first
                    | (refine wpList_load_row rfl 38 _ rfl w.heap.size rfl 38 C (0, 0) _ bP Try.underlying38 rfl HSZ.out ?_)
                    | (refine wpList_store_new rfl 67 _ _ rfl _ (wlC zeroWl) _ rfl rfl rfl (wl_size _) rfl (wlC_one _) ?_)
                    | (refine wpList_load_row_guard rfl 67 _ rfl w2.heap.size rfl 67 (wlC X) (0, 0) _ (HeldB.new w2 _ _) Try.underlying67 rfl (wl_size _) ?_)
                    | (refine wpList_load_row_guard rfl 67 _ rfl wq.heap.size rfl 67 (wlC LA) (0, 0) _ ((bL.below hb2).alloc _) Try.underlying67 rfl (wl_size _) ?_)
                    | (refine wpList_bin (by rfl) .neq 67 _ _ _ rfl (.bool false) (guard_wl _ _ _ _ _ _) (HRUN.out _) ?_)
                    | (go_at_call 56; refine (HW2.out _).mono ?_; rintro e w2 ⟨rfl, hb2⟩))
                  have hst2 := (hst.below hb2).below (below_alloc w2 (.cells (wlC X) 67))
                  have bL2 := (bL.below hb2).alloc (.cells (wlC X) 67)
                  go_roundw
                  case rel => exact ⟨j + 1, ro, rc, by omega, by go_num, by rw [HE1.out, hBQ], by rw [HE1.out, hBQ]; exact hst2, by rw [HE1.out, HLA.out]; exact bL2, hap⟩
                  case measure => simp [intOf]; omega
            · obtain rfl : j = n := by omega
              have hjn' : decide ((j : Int) < (j : Int)) = false := by rw [decide_eq_false_iff_not]; omega
              have hLN : BL ++ lineL t k (lineW (partedB g t k) j j) = A ++ linesW t (partedB g t) j (k + 1) := by rw [HSTP.out, ← HBL.out, List.append_assoc]
              have HLN := Lib.hid hLN; clear hLN
              generalize BL ++ lineL t k (lineW (partedB g t k) j j) = BQ at *
              go_wp2
              go_roundw
              case rel => exact ⟨k + 1, ro, rc, by omega, .inl (by omega), by go_num, by rw [HLN.out], by rw [← HLN.out]; exact hst⟩
              case measure => simp [intOf]; omega
        · have hkm' : decide ((k : Int) < (m : Int)) = false := by rw [decide_eq_false_iff_not]; omega
          have hLM : A ++ linesW t (partedB g t) n k = waysW h wd g (t + 1) := by
            rw [HWT.out]
            rcases hk2 with h' | rfl
            · obtain rfl : k = m := by omega
              rfl
            · by_cases hm1 : m = 1
              · rw [hm1]
              · obtain rfl : m = 0 := by omega
                rfl
          have HLM := Lib.hid hLM; clear hLM
          generalize A ++ linesW t (partedB g t) n k = BQ at *
          go_wp2
          go_roundw
          case rel => exact ⟨t + 1, ro, rc, by omega, by go_num, by rw [HLM.out], by rw [← HLM.out]; exact hst⟩
          case measure => simp [intOf]; omega
    · obtain rfl : t = 2 := by omega
      have hfin := hst.1
      have hbf := hst.2.2.2.2
      have hs2 := ownsRow_base hfin (base' := w.heap.size) (by omega)
      go_wp2
      go_ret
      exact ⟨ro, rc, rfl, hs2, hbf⟩

end Go.Proofs.Ytieieokkaomkaaa
