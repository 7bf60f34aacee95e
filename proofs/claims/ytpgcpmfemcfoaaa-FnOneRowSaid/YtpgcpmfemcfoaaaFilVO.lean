/-
  Merged texts: FilV FilW FilX FilY.
-/
import Derived.Test.YtpgcpmfemcfoaaaFilTO
import Derived.Test.YtpgcpmfemcfoaaaFilPO
import Derived.Test.YtpgcpmfemcfoaaaIsO

/-
  All plans of some rows and columns: the model's list, whole. (Walks.)
-/
namespace Go.Proofs.Ytpgcpmfemcfoaaa
open Go.RowKit

set_option maxRecDepth 100000 in
set_option maxHeartbeats 8000000 in
theorem l5Fill_scan {h wd : Nat} (h1 : 1 ≤ h) (hh : h ≤ 6) (hw : wd ≤ 6) (r : Nat) (z : Nat → Nat → Nat) (po : Option Addr) (pc : Nat) (w : World) (L : List (List ByteArray)) (I : FilI h wd r z) (h9 : h * wd ≤ 9) (hT : TxtB w po (txtZ h wd z))
    (HSOME : ∀ x, fstF h wd z = some x → Calls Try.prog 104 #[.slice po h pc, .int .i64 (r : Int), .int .i64 (x.1 : Int), .int .i64 (x.2 : Int)] w fun e w' => PlnRet w w' L e ∧ Below w.heap.size w w')
    (HNONE : fstF h wd z = none → L = [txtZ h wd z]) :
    Calls Try.prog 73 #[.slice po h pc, .int .i64 (r : Int)] w fun e w' => PlnRet w w' L e ∧ Below w.heap.size w w' := by
  have hr9 : r ≤ 9 := by have := I.num; omega
  have HDOT := Lib.hid (fun i j (hi : i < h) (hj : j < wd) => show (byZ (z i j) == 46) = (z i j == 0) from byZ_dot (by have := I.le i j hi hj; omega))
  have HRW := Lib.hid (fun i (hi : i < h) => row_txt (wd := wd) (z := z) hi)
  obtain ⟨b0, o0, rfl⟩ : ∃ b o, po = some ⟨b, o, none⟩ := by obtain ⟨b, o, _, e, _⟩ := hT; exact ⟨b, o, e⟩
  have HSTR := Lib.hid (fun i (hi : i < h) => show w.cell? ⟨b0, o0 + i, none⟩ = some (.string ((txtZ h wd z).getD i ByteArray.empty)) by
    obtain ⟨b, o, e, hc⟩ := hT.cells.str i (by rw [txtZ_len]; exact hi)
    cases e; exact hc)
  have HS := Lib.hid HSOME
  have HN := Lib.hid HNONE
  have HTX := Lib.hid hT
  clear HSOME HNONE hT I
  go_enter Try.func73, Try.ntmps73
  go_wp2
  go_loopw [5] (fun vi wr => ∃ i : Nat, i ≤ h ∧ vi = .int .i64 (i : Int) ∧ wr = w ∧ ∀ a, a < i → freeI wd z a = none) (fun vi _ => h + 1 - (intOf vi).toNat)
  case atStart => exact ⟨0, Nat.zero_le _, rfl, rfl, fun a ha => absurd ha (Nat.not_lt_zero _)⟩
  case round =>
    obtain ⟨i, hi, rfl, rfl, hf⟩ := hrel
    have HF := Lib.hid hf
    clear hf
    by_cases hil : i < h
    · have hil' : decide ((i : Int) < (h : Int)) = true := by rw [decide_eq_true_eq]; omega
      have hcs := HSTR.out i hil
      obtain ⟨hrs, hrb⟩ := HRW.out i hil
      generalize (txtZ h wd z).getD i ByteArray.empty = s at *
      have HRS := Lib.hid hrs; have HRB := Lib.hid hrb
      clear hrs hrb
      go_wp2
      go_loopw [6] (fun vk wq => ∃ k : Nat, k ≤ wd ∧ vk = .int .i64 (k : Int) ∧ wq = wr ∧ Hid (∀ b, b < k → z i b ≠ 0)) (fun vk _ => wd + 1 - (intOf vk).toNat)
      case atStart => exact ⟨0, Nat.zero_le _, rfl, rfl, Lib.hid (fun b hb => absurd hb (Nat.not_lt_zero _))⟩
      case round =>
        obtain ⟨k, hk, rfl, rfl, HB⟩ := hrel
        by_cases hkl : k < wd
        · have hks : k < s.size := by rw [HRS.out]; exact hkl
          have hkl' : decide ((k : Int) < (s.size : Int)) = true := by rw [decide_eq_true_eq]; omega
          have x1' := (at_list s k hks).trans (HRB.out k hkl)
          have hd := HDOT.out i k hil hkl
          by_cases h0 : z i k = 0
          · have HX := Lib.hid (HS.out (i, k) (fstF_is hil (freeI_is hkl h0 HB.out) HF.out))
            rw [h0] at x1'
            have x2' : s[k] = 46 := x1'
            clear x1' hd h0
            go_wp2_with fail
            refine HX.out.mono ?_
            rintro e w2 ⟨⟨g, c, us, rfl, hr, hp⟩, hb⟩
            go_wp2
            go_ret
            exact ⟨⟨g, c, us, rfl, hr, hp⟩, hb⟩
          · have HB2 := Lib.hid (rows_step HB.out h0)
            have hb46 : (((byZ (z i k)).toNat : Int) == 46) = false := by
              rw [(beq_eq_false_iff_ne).2 h0, beq_eq_false_iff_ne] at hd
              rw [beq_eq_false_iff_ne]
              intro e
              refine hd (UInt8.toNat_inj.1 ?_)
              show (byZ (z i k)).toNat = 46
              omega
            clear hd h0
            generalize byZ (z i k) = cc at *
            go_wp2
            go_roundw
            case rel => exact ⟨k + 1, by omega, by go_num, by first | rfl | trivial, HB2⟩
            case measure => simp [intOf]; omega
        · have hkl' : decide ((k : Int) < (s.size : Int)) = false := by rw [decide_eq_false_iff_not, HRS.out]; omega
          obtain rfl : k = wd := by omega
          have HB2 := Lib.hid (rows_step HF.out (freeI_no HB.out))
          have hkn : ¬ k < s.size := by rw [HRS.out]; omega
          go_wp2
          go_roundw
          case rel => exact ⟨i + 1, by omega, by go_num, by first | rfl | trivial, HB2.out⟩
          case measure => simp [intOf]; omega
    · have hil' : decide ((i : Int) < (h : Int)) = false := by rw [decide_eq_false_iff_not]; omega
      obtain rfl : i = h := by omega
      have HL := Lib.hid (HN.out (fstF_no HF.out))
      go_wp2_with fail
      go_ret
      rw [HL.out]
      have hT2 := HTX.out.below (below_alloc wr (.cells #[.slice (some ⟨b0, o0, none⟩) i pc] 23))
      have hp2 := PlansV.one (c := pc) hT2
      rw [txtZ_len] at hp2
      exact ⟨⟨wr.heap.size, 1, [.slice (some ⟨b0, o0, none⟩) i pc], rfl, ⟨rfl, .inr ⟨wr.heap.size, 1, #[.slice (some ⟨b0, o0, none⟩) i pc], rfl, Nat.le_refl _, heap_alloc_new wr _, Nat.le_refl _, by decide, rfl, rfl⟩⟩, hp2⟩, below_alloc _ _⟩

theorem flatR_len {α : Type} (f : Nat → List α) {n a : Nat} (h : a ≤ n) : ((List.range a).flatMap f).length ≤ ((List.range n).flatMap f).length := by
  induction n with
  | zero => rw [Nat.le_zero.1 h]; exact Nat.le_refl _
  | succ n ih =>
    rcases Nat.lt_or_ge n a with q | q
    · rw [show a = n + 1 by omega]; exact Nat.le_refl _
    · rw [flatR_snoc, List.length_append]
      have := ih q
      omega
/-- the model's fill, by the number of free cells -/
theorem l5Fill_any {h wd : Nat} (h1 : 1 ≤ h) (hh : h ≤ 6) (hw : wd ≤ 6) (h9 : h * wd ≤ 9) : ∀ k, FilOk h wd k
  | 0 => fun r z po pc w I hf hl hT => by
    refine l5Fill_scan h1 hh hw r z po pc w _ I h9 hT (fun x hx => ?_) (fun hx => by rw [fillZ_none hx]; rfl)
    obtain ⟨x1, x2, x3, _⟩ := fstF_some hx
    have := freeC_pos x3 x2 h x1
    omega
  | k + 1 => fun r z po pc w I hf hl hT => by
    refine l5Fill_scan h1 hh hw r z po pc w _ I h9 hT (fun x hx => ?_) (fun hx => by rw [fillZ_none hx]; rfl)
    rw [fillZ_some hx] at hl ⊢
    exact l5Begin_any h1 hh hw h9 (parZ (fillZ h wd k) h r z x) (rowZ (fillZ h wd k) r z x) (l5Fill_any h1 hh hw h9 k) r z x (fun u t hu ht => by
        have a1 := flatR_len (fun w => rowZ (fillZ h wd k) r z x w (h - x.1)) (show u + 1 ≤ runF wd z x.1 x.2 by omega)
        rw [flatR_snoc, List.length_append] at a1
        have a2 := flatR_len (fun t => fillZ h wd k (r + 1) (putZ z x.1 x.2 (t + 1) (u + 1) (r + 1))) ht
        unfold parZ at hl ⊢
        unfold rowZ at hl a1 ⊢
        try simp only at a1
        try simp only at a2
        omega) po pc w I hf hx hT rfl (fun u => rfl) (fun u => flatR_snoc _ _) (fun u t => flatR_snoc _ _)
end Go.Proofs.Ytpgcpmfemcfoaaa

/-
  All plans of some rows and columns: the model's list from free plans. (Walks.)
-/
namespace Go.Proofs.Ytpgcpmfemcfoaaa
open Go.RowKit

theorem allZ_few {h wd : Nat} (hh : h ≤ 6) (hw : wd ≤ 6) (h9 : h * wd ≤ 9) : (allZ h wd).length ≤ 1000000 := by
  have q : ∀ a : Fin 7, ∀ b : Fin 7, a.val * b.val ≤ 9 → (allZ a.val b.val).length ≤ 1000000 := by decide +kernel
  exact q ⟨h, by omega⟩ ⟨wd, by omega⟩ h9

theorem Try.infoStr5 : (Try.prog.info? 9).map (fun i => (i.zero, i.size, i.bytes)) = some (some (.string ⟨#[]⟩), 1, 16) := by kernel_rfl
theorem Try.infoByte5 : (Try.prog.info? 5).map (fun i => (i.zero, i.size, i.bytes)) = some (some (.int .u8 0), 1, 1) := by kernel_rfl
theorem matB_dots (h wd : Nat) : matB h wd (fun _ _ => 46) = txtZ h wd (zFree h wd) := by
  unfold txtZ
  refine matB_congr fun i j hi hj => ?_
  unfold zFree
  rw [if_pos ⟨hi, hj⟩]
  rfl
set_option maxRecDepth 100000 in
set_option maxHeartbeats 8000000 in
theorem l5Plans_any {h wd : Nat} (h1 : 1 ≤ h) (hh : h ≤ 6) (hw : wd ≤ 6) (h9 : h * wd ≤ 9) (w : World) :
    Calls Try.prog 38 #[.int .i64 (h : Int), .int .i64 (wd : Int)] w fun e w' => PlnRet w w' (lstT h wd (allZ h wd)) e ∧ Below w.heap.size w w' := by
  obtain ⟨it, hti, htz, ht1, ht2⟩ := info_parts Try.infoStr5
  obtain ⟨ib, hbi, hbz, hb1, hb2⟩ := info_parts Try.infoByte5
  have HF := Lib.hid (fun po pc W hT => l5Fill_any h1 hh hw h9 (h * wd) 0 (zFree h wd) po pc W (FilI.start h wd) (freeC_all _ _ _) (allZ_few hh hw h9) hT)
  have HBD := Lib.hid (matB_dots h wd)
  obtain ⟨b, hbe⟩ : ∃ b : Nat → Nat → UInt8, b = (fun _ _ => 46) := ⟨_, rfl⟩
  rw [← hbe] at HBD
  have HBE := Lib.hid (fun i j => show b i j = 46 by rw [hbe])
  clear hbe
  go_enter Try.func38, Try.ntmps38
  go_wp2
  have hW1 := below_alloc w (.cells #[] 9)
  have hr1 : (w.alloc (.cells #[] 9)).ownsRow w.heap.size 9 1 (.slice (some ⟨w.heap.size, 0, none⟩) 0 0) 0 ((matB 0 wd b).map Value.string) := World.ownsRow_made w #[] 0 (Nat.le_refl _) (Nat.zero_le _) rfl
  go_loopw [5, 6] (fun vo vk wr => ∃ (k : Nat) (ro : Option Addr) (rc : Nat), k ≤ h ∧ vk = .int .i64 k ∧ vo = .slice ro k rc ∧ wr.ownsRow w.heap.size 9 1 (.slice ro k rc) k ((matB k wd b).map Value.string) ∧ Below w.heap.size w wr) (fun _ k _ => h - (intOf k).toNat)
  case atStart => exact ⟨0, _, _, Nat.zero_le _, rfl, rfl, hr1, hW1⟩
  case round =>
    clear hr1 hW1
    obtain ⟨k, ro, rc, hk, rfl, rfl, hrow, hb⟩ := hrel
    have hbs := hb.size
    by_cases hlt : k < h
    · have hlt' : decide ((k : Int) < (h : Int)) = true := by rw [decide_eq_true_eq]; omega
      go_wp2
      go_loopw [7, 8] (fun vr vi wm => ∃ (t : Nat) (so : Option Addr) (sc : Nat), t ≤ wd ∧ vi = .int .i64 (t : Int) ∧ vr = .slice so t sc ∧ wm.ownsRow w.heap.size 5 1 (.slice so t sc) t ((rowM t b k).map byteV) ∧
          wm.ownsRow w.heap.size 9 1 (.slice ro k rc) k ((matB k wd b).map Value.string) ∧ Apart so ro ∧ Below w.heap.size w wm) (fun _ vi _ => wd - (intOf vi).toNat)
      case atStart => exact ⟨0, _, 0, Nat.zero_le _, rfl, rfl, World.ownsRow_made wr #[] 0 hbs (Nat.zero_le _) rfl, hrow.alloc _, (Apart.fresh (fun a ha => (owns_lt hrow a ha).2) (Nat.le_refl _) 0 none).symm, hb.alloc hbs _⟩
      case round =>
        clear hrow hb hbs
        obtain ⟨t, so, sc, ht, rfl, rfl, hnam, hrow, hap, hb⟩ := hrel
        have hbs := hb.size
        by_cases htl : t < wd
        · have htl' : decide ((t : Int) < (wd : Int)) = true := by rw [decide_eq_true_eq]; omega
          have HRS := Lib.hid (rowM_succ t b k)
          have hb1' : t + 1 ≤ maxLen := by unfold maxLen; omega
          have hb2' : (t + 1) * 1 ≤ 140737488355328 := by omega
          have HEL := Lib.hid (byte_elem (b k t) (rowM t b k))
          go_wp2_with (at_builtin; refine wpList_push _ rfl (.tmp 21) (.tmp 22) 22 rfl w.heap.size 5 ib (.int .u8 0) 1 Try.underlying22 hbi hbz hb1 hb2 rfl so t sc _ rfl (hnam.alloc _) _ _ _ rfl (cell_new _ _ _) rfl hb1' hb2' (by simp; omega) ?_; intro so2 sc2 w2 hnam2 hg2 hnew2)
          have hlt3 := owns_lt hrow
          have hnm : (rowM t b k).map byteV ++ [Value.int .u8 46] = (rowM (t + 1) b k).map byteV := by rw [HRS.out, ← HEL.out, HBE.out]; rfl
          have HNM := Lib.hid hnm; clear hnm
          go_roundw
          case rel => exact ⟨t + 1, so2, sc2, by omega, by go_num, rfl, owns_eq hnam2 HNM.out, owns_push_other hrow hg2 hap.symm, apart_push hap hnew2 (fun a ha => (hlt3 a ha).2), below_push hb hbs hg2 (fun a ha => (owns_lt hnam a ha).1)⟩
          case measure => first | (simp [intOf]; omega) | simp [intOf]
        · obtain rfl : t = wd := by omega
          have htl' : decide ((t : Int) < (t : Int)) = false := by rw [decide_eq_false_iff_not]; omega
          have HST := Lib.hid (matB_succ k t b)
          have hst : (matB k t b).map Value.string ++ [.string ⟨(rowM t b k).toArray⟩] = (matB (k + 1) t b).map Value.string := by rw [HST.out, List.map_append]; rfl
          have HSTT := Lib.hid hst; clear hst
          have hb1' : k + 1 ≤ maxLen := by unfold maxLen; omega
          have hb2' : (k + 1) * 16 ≤ 140737488355328 := by omega
          go_wp2_with (first
            | (at_builtin; refine wpList_push _ rfl (.tmp 24) (.tmp 27) 23 rfl w.heap.size 9 it (.string ⟨#[]⟩) 16 Try.underlying23 hti htz ht1 ht2 rfl ro k rc _ rfl (hrow.alloc _) _ _ _ rfl (cell_new _ _ _) rfl hb1' hb2' (by simp; omega) ?_; intro ro2 rc2 w2 hrow2 hg2 hnew2)
            | (refine wpList_str_of_bytes _ rfl 22 9 5 _ rfl Try.underlying22 Try.underlying5 Try.underlying9 so t sc rfl (rowM t b k) (rowM_len _ _ _) (owns_cells hnam) ?_))
          go_roundw
          case rel => exact ⟨k + 1, ro2, rc2, by omega, by go_num, rfl, owns_eq hrow2 HSTT.out, below_push hb hbs hg2 (fun a ha => (owns_lt hrow a ha).1)⟩
          case measure => simp [intOf]; omega
    · obtain rfl : k = h := by omega
      have hlt' : decide ((k : Int) < (k : Int)) = false := by rw [decide_eq_false_iff_not]; omega
      rw [HBD.out] at hrow
      have hT := TxtB.of hrow h1
      go_wp2_with fail
      refine (HF.out _ _ _ hT).mono ?_
      rintro e w2 ⟨⟨g, c, us, rfl, hr, hp⟩, hb2⟩
      have hbb := below_step hb hbs hb2
      go_wp2
      go_ret
      exact ⟨⟨g, c, us, rfl, ownsRow_base hr hbs, hp⟩, hbb⟩
end Go.Proofs.Ytpgcpmfemcfoaaa

/-
  A plan without free cells: its arrays and its text by rooms' numbers. (Mathematics.)
-/
namespace Go.Proofs.Ytpgcpmfemcfoaaa
open Go.RowKit

theorem full_no0 {h wd r : Nat} {z : Nat → Nat → Nat} (I : FilI h wd r z) (hn : fstF h wd z = none) (i j : Nat) : z i j ≠ 0 := by
  by_cases hi : h ≤ i ∨ wd ≤ j
  · rw [I.out i j hi]; decide
  · exact fstF_none hn i (by omega) j (by omega)
/-- rooms' numbers from 0 -/
def gZ (z : Nat → Nat → Nat) : Nat → Nat → Nat := fun i j => z i j - 1
theorem planZ_full {h wd r : Nat} {z : Nat → Nat → Nat} (hz : ∀ i j, z i j ≠ 0) : planZ h wd r z = planC h wd r (gZ z) := by
  rw [planI_nat]
  unfold planZ
  have e : cellZ z = fun i j => ((gZ z i j : Nat) : Int) := by
    funext i j
    unfold cellZ gZ
    have := hz i j
    omega
  rw [e]
theorem txtZ_full {h wd : Nat} {z : Nat → Nat → Nat} (hz : ∀ i j, z i j ≠ 0) : txtZ h wd z = matB h wd (fun i j => UInt8.ofNat (97 + gZ z i j)) := by
  unfold txtZ
  refine matB_congr fun i j _ _ => ?_
  have := hz i j
  unfold byZ gZ
  rw [if_neg this, show 96 + z i j = 97 + (z i j - 1) by omega]
/-- every plan of the list is full, its rooms' numbers are below its count -/
theorem allZ_full {h wd : Nat} {y : Nat × (Nat → Nat → Nat)} (hy : y ∈ allZ h wd) : FilI h wd y.1 y.2 ∧ (∀ i j, y.2 i j ≠ 0) ∧ ∀ i j, i < h → j < wd → gZ y.2 i j < y.1 := by
  obtain ⟨I, hn⟩ := fillZ_full (h * wd) 0 (zFree h wd) (FilI.start h wd) (freeC_all _ _ _) y hy
  have h0 := full_no0 I hn
  refine ⟨I, h0, fun i j hi hj => ?_⟩
  have h1 := I.le i j hi hj
  have h2 := h0 i j
  unfold gZ
  omega
end Go.Proofs.Ytpgcpmfemcfoaaa

/-
  All plans of some rows and columns: each one is a plan, each plan is one of them, none twice. (Mathematics.)
-/
namespace Go.Proofs.Ytpgcpmfemcfoaaa
open Go.RowKit

/-- what also holds while rooms are laid: lower numbers come ahead; rooms are rectangles; each number is used -/
structure FilJ (h wd r : Nat) (z : Nat → Nat → Nat) : Prop where
  canon : ∀ i j, i < h → j < wd → ∀ u, 1 ≤ u → u ≤ r → (z i j = 0 ∨ u < z i j) → ∃ i' j', i' < h ∧ j' < wd ∧ i' * wd + j' < i * wd + j ∧ z i' j' = u
  rect : ∀ v, 1 ≤ v → v ≤ r → ∃ row col hi wi, row + hi ≤ h ∧ col + wi ≤ wd ∧ ∀ i j, i < h → j < wd → (z i j = v ↔ InR row col hi wi i j)
  used : ∀ v, 1 ≤ v → v ≤ r → ∃ i j, i < h ∧ j < wd ∧ z i j = v
theorem FilJ.start (h wd : Nat) : FilJ h wd 0 (zFree h wd) := ⟨fun _ _ _ _ u a b => by omega, fun v a b => by omega, fun v a b => by omega⟩
theorem ahead_lt {wd a b i j : Nat} (hb : b < wd) (_hj : j < wd) (h : a < i ∨ a = i ∧ b < j) : a * wd + b < i * wd + j := by
  rcases h with h | ⟨rfl, h⟩
  · have := Nat.mul_le_mul_right wd (show a + 1 ≤ i by omega)
    rw [Nat.succ_mul] at this
    omega
  · omega
/-- the cells of a box at the first free cell are free -/
theorem box_free {h wd r w t : Nat} {z : Nat → Nat → Nat} {x : Nat × Nat} (I : FilI h wd r z) (hx : fstF h wd z = some x) (hw : w < runF wd z x.1 x.2) (ht : t < h - x.1) {a b : Nat} (hb : x.1 ≤ a ∧ a < x.1 + (t + 1) ∧ x.2 ≤ b ∧ b < x.2 + (w + 1)) : z a b = 0 := by
  obtain ⟨x1, x2, x3, x4, x5⟩ := fstF_some hx
  have hr := runF_le (z := z) (i := x.1) x2
  refine I.down x.1 b a hb.1 (by omega) (by omega) ?_
  have := runZ_free z x.1 (wd - x.2) x.2 (b - x.2) (by unfold runF at hw; omega)
  rwa [show x.2 + (b - x.2) = b by omega] at this
theorem FilJ.step {h wd r w t : Nat} {z : Nat → Nat → Nat} {x : Nat × Nat} (I : FilI h wd r z) (K : FilJ h wd r z) (hx : fstF h wd z = some x) (hw : w < runF wd z x.1 x.2) (ht : t < h - x.1) :
    FilJ h wd (r + 1) (putZ z x.1 x.2 (t + 1) (w + 1) (r + 1)) := by
  obtain ⟨x1, x2, x3, x4, x5⟩ := fstF_some hx
  have hr := runF_le (z := z) (i := x.1) x2
  have hxin : putZ z x.1 x.2 (t + 1) (w + 1) (r + 1) x.1 x.2 = r + 1 := putZ_in ⟨Nat.le_refl _, by omega, Nat.le_refl _, by omega⟩
  have hkeep : ∀ a b, z a b ≠ 0 → putZ z x.1 x.2 (t + 1) (w + 1) (r + 1) a b = z a b := fun a b h0 => putZ_no fun hb => h0 (box_free I hx hw ht hb)
  -- the first free cell is ahead of all others
  have hfst : ∀ i j, i < h → j < wd → z i j = 0 → (i = x.1 ∧ j = x.2) ∨ x.1 * wd + x.2 < i * wd + j := fun i j hi hj h0 => by
    rcases Nat.lt_trichotomy i x.1 with q | q | q
    · exact absurd h0 (x5 i q j hj)
    · subst q
      rcases Nat.lt_trichotomy j x.2 with q | q | q
      · exact absurd h0 (x4 j q)
      · exact .inl ⟨rfl, q⟩
      · exact .inr (ahead_lt x2 hj (.inr ⟨rfl, q⟩))
    · exact .inr (ahead_lt x2 hj (.inl q))
  refine ⟨fun i j hi hj u hu hur hz => ?_, fun v hv hvr => ?_, fun v hv hvr => ?_⟩
  · by_cases hb : x.1 ≤ i ∧ i < x.1 + (t + 1) ∧ x.2 ≤ j ∧ j < x.2 + (w + 1)
    · rw [putZ_in hb] at hz
      obtain ⟨i', j', a1, a2, a3, a4⟩ := K.canon x.1 x.2 x1 x2 u hu (by omega) (.inl x3)
      refine ⟨i', j', a1, a2, ?_, by rw [hkeep _ _ (by omega)]; exact a4⟩
      rcases hfst i j hi hj (box_free I hx hw ht hb) with ⟨q1, q2⟩ | q
      · subst q1 q2; exact a3
      · omega
    · rw [putZ_no hb] at hz
      rcases Nat.lt_or_ge r u with hru | hru
      · have hu' : u = r + 1 := by omega
        subst hu'
        have h0 : z i j = 0 := by
          rcases hz with q | q
          · exact q
          · have := I.le i j hi hj; omega
        refine ⟨x.1, x.2, x1, x2, ?_, hxin⟩
        rcases hfst i j hi hj h0 with ⟨q1, q2⟩ | q
        · subst q1 q2; exact absurd ⟨Nat.le_refl _, by omega, Nat.le_refl _, by omega⟩ hb
        · exact q
      · obtain ⟨i', j', a1, a2, a3, a4⟩ := K.canon i j hi hj u hu hru hz
        exact ⟨i', j', a1, a2, a3, by rw [hkeep _ _ (by omega)]; exact a4⟩
  · rcases Nat.lt_or_ge r v with hrv | hrv
    · have hv' : v = r + 1 := by omega
      subst hv'
      refine ⟨x.1, x.2, t + 1, w + 1, by omega, by omega, fun i j hi hj => ?_⟩
      unfold InR
      by_cases hb : x.1 ≤ i ∧ i < x.1 + (t + 1) ∧ x.2 ≤ j ∧ j < x.2 + (w + 1)
      · rw [putZ_in hb]; exact ⟨fun _ => hb, fun _ => rfl⟩
      · rw [putZ_no hb]
        refine ⟨fun e => ?_, fun e => absurd e hb⟩
        have := I.le i j hi hj; omega
    · obtain ⟨row, col, hi', wi, a1, a2, a3⟩ := K.rect v hv hrv
      refine ⟨row, col, hi', wi, a1, a2, fun i j hi hj => ?_⟩
      rw [← a3 i j hi hj]
      by_cases hb : x.1 ≤ i ∧ i < x.1 + (t + 1) ∧ x.2 ≤ j ∧ j < x.2 + (w + 1)
      · rw [putZ_in hb, box_free I hx hw ht hb]
        constructor <;> intro e <;> omega
      · rw [putZ_no hb]
  · rcases Nat.lt_or_ge r v with hrv | hrv
    · exact ⟨x.1, x.2, x1, x2, by rw [hxin]; omega⟩
    · obtain ⟨i, j, a1, a2, a3⟩ := K.used v hv hrv
      exact ⟨i, j, a1, a2, by rw [hkeep _ _ (by omega)]; exact a3⟩
theorem fillZ_J {h wd : Nat} : ∀ (k r : Nat) (z : Nat → Nat → Nat), FilI h wd r z → FilJ h wd r z → ∀ y ∈ fillZ h wd k r z, FilJ h wd y.1 y.2
  | 0, r, z, I, K, y, hy => by
    have e : y = (r, z) := by simpa [fillZ] using hy
    subst e; exact K
  | k + 1, r, z, I, K, y, hy => by
    have hy' : y ∈ fillAt (fillZ h wd k) h wd r z (fstF h wd z) := hy
    cases hx : fstF h wd z with
    | none =>
      rw [hx] at hy'
      have e : y = (r, z) := by simpa [fillAt] using hy'
      subst e; exact K
    | some x =>
      rw [hx] at hy'
      unfold fillAt at hy'
      obtain ⟨w, hw, h1⟩ := List.mem_flatMap.1 hy'
      obtain ⟨t, ht, h2⟩ := List.mem_flatMap.1 h1
      have hw := List.mem_range.1 hw
      have ht := List.mem_range.1 ht
      exact fillZ_J k (r + 1) _ (I.step hx hw ht).1 (K.step I hx hw ht) y h2
theorem txtZ_rows {h wd : Nat} {z : Nat → Nat → Nat} (hz : ∀ i j, z i j ≠ 0) : txtZ h wd z = rowsT h wd (gZ z) := by rw [txtZ_full hz]; rfl
/-- what is told of a plan of the list -/
structure Leaf (h wd : Nat) (y : Nat × (Nat → Nat → Nat)) : Prop where
  plan : planB (txtZ h wd y.2) = true
  len : (txtZ h wd y.2).length = h
  wide : wideB (txtZ h wd y.2) = wd
  few : y.1 ≤ 9
  rooms : gridR (txtZ h wd y.2) = y.1
  grid : gridG (txtZ h wd y.2) = gZ y.2
theorem leaf {h wd : Nat} (h1 : 1 ≤ h) (hh : h ≤ 6) (w1 : 1 ≤ wd) (hw : wd ≤ 6) (h9 : h * wd ≤ 9) {y : Nat × (Nat → Nat → Nat)} (hy : y ∈ allZ h wd) : Leaf h wd y := by
  obtain ⟨I, h0, hlt⟩ := allZ_full hy
  have K := fillZ_J (h * wd) 0 (zFree h wd) (FilI.start h wd) (FilJ.start h wd) y hy
  have hr9 : y.1 ≤ 9 := by have := I.num; omega
  have h26 : ∀ i j, i < h → j < wd → gZ y.2 i j < 26 := fun i j hi hj => by have := hlt i j hi hj; omega
  have hc : CanonG h wd (gZ y.2) := fun i j hi hj u hu => by
    have hb := I.le i j hi hj
    unfold gZ at hu
    obtain ⟨i', j', a1, a2, a3, a4⟩ := K.canon i j hi hj (u + 1) (by omega) (by omega) (.inr (by omega))
    exact ⟨i', j', a1, a2, a3, by unfold gZ; omega⟩
  have hren : ∀ i j, i < h → j < wd → renG h wd (gZ y.2) i j = gZ y.2 i j := fun i j hi hj => ren_canon hc hi hj
  have hrenE : renG h wd (gZ y.2) = gZ y.2 := by
    funext i j
    by_cases hij : i < h ∧ j < wd
    · exact hren i j hij.1 hij.2
    · unfold renG roomG
      rw [if_neg (by omega)]
      unfold gZ
      rw [I.out i j (by omega)]
  have hrect : RectG h wd (gZ y.2) := fun i j hi hj => by
    have hb := I.le i j hi hj
    have hz := h0 i j
    obtain ⟨row, col, hi', wi, a1, a2, a3⟩ := K.rect (y.2 i j) (by omega) hb
    refine ⟨row, col, hi', wi, a1, a2, fun a b ha hb => ?_⟩
    rw [← a3 a b ha hb]
    unfold gZ
    have := h0 a b
    omega
  have hmf : (markF h wd (gZ y.2)).length = y.1 := by
    refine Nat.le_antisymm (markF_few hlt) ?_
    rcases Nat.eq_zero_or_pos y.1 with q | q
    · omega
    obtain ⟨i, j, a1, a2, a3⟩ := K.used y.1 q (Nat.le_refl _)
    have := ren_lt (h := h) (wd := wd) (m := gZ y.2) (n := (markF h wd (gZ y.2)).length + 0) (fun a b ha hb => by
      rw [← hren a b ha hb, renG_in ha hb]
      exact List.idxOf_lt_length_of_mem (markF_mem ha hb)) a1 a2
    have e : gZ y.2 i j = y.1 - 1 := by unfold gZ; rw [a3]
    rw [hren i j a1 a2, e] at this
    omega
  have ht := txtZ_rows (h := h) (wd := wd) h0
  have hd : drawOk h wd (gZ y.2) = true := drawOk_iff.2 ⟨⟨h1, hh⟩, ⟨w1, hw⟩, by rw [hmf]; exact hr9, hrect⟩
  have hwide : wideB (txtZ h wd y.2) = wd := by rw [ht]; exact rowsT_wide h1
  have hgr : gridG (txtZ h wd y.2) = gZ y.2 := by rw [ht, gridG_rows h1 h26, hrenE]
  refine ⟨?_, txtZ_len _ _ _, hwide, hr9, ?_, hgr⟩
  · have := planB_rows (m := gZ y.2) h1 hh w1 hw (fun i j hi hj => by rw [hren i j hi hj]; exact h26 i j hi hj)
    rw [hrenE] at this
    rw [ht, this]; exact hd
  · unfold gridR
    rw [hwide, txtZ_len, ← hmf]
    refine congrArg List.length (markF_congr fun i j hi hj => ?_)
    rw [ht]; exact rowsT_mark hi hj (h26 i j hi hj)
theorem Leaf.cells {h wd : Nat} {y : Nat × (Nat → Nat → Nat)} (L : Leaf h wd y) (hy : y ∈ allZ h wd) : planZ h wd y.1 y.2 = planC (txtZ h wd y.2).length (wideB (txtZ h wd y.2)) (gridR (txtZ h wd y.2)) (gridG (txtZ h wd y.2)) := by
  rw [L.len, L.wide, L.rooms, L.grid, planZ_full (allZ_full hy).2.1]

end Go.Proofs.Ytpgcpmfemcfoaaa
