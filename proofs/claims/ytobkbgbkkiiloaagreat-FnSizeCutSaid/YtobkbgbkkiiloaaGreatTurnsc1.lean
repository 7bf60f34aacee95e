/-
  Merged texts: SpecE SpecF SpecG ImplI ImplJ TurnA MathG.
-/
import Derived.Test.YtobkbgbkkiiloaaGreatMathCEc1

/-
  The model's answers on names and rooms. (Walks.)
-/
namespace Go.Proofs.YtobkbgbkkiiloaaGreat
open Go.RowKit

/-- a call hands back texts of the call's own, and a word whether there are any -/
def TextsRet (base : Nat) (T : List ByteArray) (b : Bool) (e : Ending) (w' : World) : Prop :=
  ∃ ro rc, e = .returned (.tuple #[.slice ro T.length rc, .bool b]) ∧ w'.ownsRow base 9 1 (.slice ro T.length rc) T.length (T.map Value.string)

/-- the texts of what a change comes to -/
def orNone (b : Bool) (T : List ByteArray) : List ByteArray := if b then T else []
theorem orNone_yes {b : Bool} {T : List ByteArray} (h : b = true) : orNone b T = T := by rw [h]; rfl
theorem orNone_no {b : Bool} {T : List ByteArray} (h : b = false) : orNone b T = [] := by rw [h]; rfl

theorem l1None_any (w : World) : Calls Tryz.prog 154 #[] w fun e w' => TextsRet w.heap.size [] false e w' ∧ Below w.heap.size w w' := by
  have ho : (w.alloc (.cells #[] 9)).ownsRow w.heap.size 9 1 (.slice (some ⟨w.heap.size, 0, none⟩) 0 0) 0 (([] : List ByteArray).map Value.string) := World.ownsRow_made w #[] 0 (Nat.le_refl _) (Nat.zero_le _) rfl
  go_enter Tryz.func154, Tryz.ntmps154
  go_wp2
  go_ret2
  exact ⟨⟨_, _, rfl, ho⟩, below_alloc _ _⟩

theorem names_size {p : List ByteArray} {n : Nat} (hs : ∀ s ∈ p, s.size ≤ n) : ∀ s ∈ namesB p, s.size ≤ n := fun s h => by
  unfold namesB at h
  rw [List.mem_map] at h
  obtain ⟨t, ht, rfl⟩ := h
  rw [← size_list]
  unfold namesL
  simp only [List.length_map]
  rw [size_list]
  exact hs t ht

set_option maxHeartbeats 1000000 in
theorem l1Done_any (ao : Option Addr) (cap n : Nat) (p : List ByteArray) (w : World) (hn : p.length = n) (hl : p.length ≤ 1048576) (hs : ∀ s ∈ p, s.size ≤ 1048576) (hc : CellsAt w ao (p.map Value.string)) :
    Calls Tryz.prog 155 #[.slice ao n cap] w fun e w' => TextsRet w.heap.size (orNone (doneB p) (namesB p)) (doneB p) e w' ∧ Below w.heap.size w w' := by
  subst hn
  cases hg : gridB p
  · have hd : doneB p = false := by unfold doneB; rw [hg]; rfl
    rw [orNone_no hd, hd]
    go_enter Tryz.func155, Tryz.ntmps155
    go_wp2_with (first
      | (go_at_call 98; refine (l1Grid_any _ _ _ _ hl hs hc).mono ?_; rw [hg]; rintro e w1 ⟨rfl, hq1⟩)
      | (go_at_call 154; refine (l1None_any _).mono ?_; rintro e w2 ⟨⟨ro, rc, rfl, hown2⟩, hb2⟩))
    go_ret2
    exact ⟨⟨_, _, rfl, ownsRow_base hown2 (by rw [hq1.size]; exact Nat.le_refl _)⟩, (hq1.below _).trans (hb2.mono (by rw [hq1.size]; exact Nat.le_refl _))⟩
  · have hdim := gridB_len hg
    have hrow := gridB_row hg
    have hs6 : ∀ s ∈ p, s.size ≤ 6 := fun s h => (hrow s h).2.2.1
    have hl6 := hdim.2
    have hnl : (namesB p).length ≤ 1048576 := by rw [namesB_len]; omega
    have hns : ∀ s ∈ namesB p, s.size ≤ 1048576 := fun s h => Nat.le_trans (names_size hs6 s h) (by omega)
    have HSP := Lib.hid (fun (ao : Option Addr) (cap : Nat) (w : World) (h : CellsAt w ao ((namesB p).map Value.string)) => specPlanIn_any ao cap (namesB p) w hnl hns h)
    rw [namesB_len] at HSP
    have hde : doneB p = planB (namesB p) := by unfold doneB; rw [hg, Bool.true_and]
    clear hnl hns hrow
    cases hp : planB (namesB p)
    · rw [hp] at hde HSP
      rw [orNone_no hde, hde]
      go_enter Tryz.func155, Tryz.ntmps155
      go_wp2_with (first
        | (go_at_call 98; refine (l1Grid_any _ _ _ _ hl hs hc).mono ?_; rw [hg]; rintro e w1 ⟨rfl, hq1⟩; have hc1 := hq1.cells hc)
        | (go_at_call 100; refine (l1Names_any _ _ _ _ hl6 hs6 hc1).mono ?_; rintro e w2 ⟨ro, rc, rfl, hown2, hb2⟩; have hcn := owns_cells hown2)
        | (go_at_call 73; refine (HSP.out _ _ _ hcn).mono ?_; rintro e w3 ⟨rfl, hb3⟩)
        | (go_at_call 154; refine (l1None_any _).mono ?_; rintro e w4 ⟨⟨ro4, rc4, rfl, hown4⟩, hb4⟩))
      have hq1s := hq1.size
      have h13 : Below w.heap.size w w3 := (hq1.below _).trans ((below_step hb2 hb2.size hb3).mono (by omega))
      go_ret2
      exact ⟨⟨_, _, rfl, ownsRow_base hown4 h13.size⟩, below_step h13 h13.size hb4⟩
    · rw [hp] at hde HSP
      rw [orNone_yes hde, hde]
      go_enter Tryz.func155, Tryz.ntmps155
      go_wp2_with fail
      refine (l1Grid_any _ _ _ _ hl hs hc).mono ?_
      rw [hg]
      rintro e w1 ⟨rfl, hq1⟩
      have hc1 := hq1.cells hc
      go_wp2_with fail
      refine (l1Names_any _ _ _ _ hl6 hs6 hc1).mono ?_
      rintro e w2 ⟨ro, rc, rfl, hown2, hb2⟩
      have hcn := owns_cells hown2
      have hc2 := hc1.below hb2
      go_wp2_with fail
      refine (HSP.out _ _ _ hcn).mono ?_
      rintro e w3 ⟨rfl, hb3⟩
      have hc3 := hc2.below hb3
      go_wp2_with fail
      refine (l1Names_any _ _ _ _ hl6 hs6 hc3).mono ?_
      rintro e w4 ⟨ro4, rc4, rfl, hown4, hb4⟩
      go_wp2
      have hq1s := hq1.size
      have h13 : Below w.heap.size w w3 := (hq1.below _).trans ((below_step hb2 hb2.size hb3).mono (by omega))
      go_ret2
      exact ⟨⟨ro4, rc4, by rw [namesB_len]; rfl, by rw [namesB_len]; exact ownsRow_base hown4 h13.size⟩, below_step h13 h13.size hb4⟩

end Go.Proofs.YtobkbgbkkiiloaaGreat

/-
  The model's lists of texts turned, read backwards, with rows and columns exchanged. (Walks.)
-/
namespace Go.Proofs.YtobkbgbkkiiloaaGreat
open Go.RowKit

/-- texts by their bytes -/
def rowM (m : Nat) (b : Nat → Nat → UInt8) (i : Nat) : List UInt8 := (List.range m).map (b i)
def matB (n m : Nat) (b : Nat → Nat → UInt8) : List ByteArray := (List.range n).map fun i => ⟨(rowM m b i).toArray⟩
theorem rowM_len (m : Nat) (b : Nat → Nat → UInt8) (i : Nat) : (rowM m b i).length = m := by simp [rowM]
theorem rowM_succ (m : Nat) (b : Nat → Nat → UInt8) (i : Nat) : rowM (m + 1) b i = rowM m b i ++ [b i m] := by simp [rowM, List.range_succ]
theorem matB_len (n m : Nat) (b : Nat → Nat → UInt8) : (matB n m b).length = n := by simp [matB]
theorem matB_succ (n m : Nat) (b : Nat → Nat → UInt8) : matB (n + 1) m b = matB n m b ++ [⟨(rowM m b n).toArray⟩] := by simp [matB, List.range_succ]
theorem matB_size {n m : Nat} {b : Nat → Nat → UInt8} : ∀ s ∈ matB n m b, s.size = m := fun s hs => by
  unfold matB at hs
  rw [List.mem_map] at hs
  obtain ⟨i, _, rfl⟩ := hs
  rw [← size_list]
  exact rowM_len _ _ _
theorem byte_elem (c : UInt8) (l : List UInt8) : l.map byteV ++ [Value.int .u8 (c.toNat : Int)] = (l ++ [c]).map byteV := by simp [byteV]

def transB (p : List ByteArray) : List ByteArray := matB (wideB p) p.length (fun k i => byteAt p i k)

set_option maxHeartbeats 1000000 in
theorem l1Trans_any (ao : Option Addr) (cap n : Nat) (p : List ByteArray) (w : World) (hn : p.length = n) (h1 : 1 ≤ p.length) (hl : p.length ≤ 1048576) (hw : wideB p ≤ 1048576) (he : Even p)
    (hc : CellsAt w ao (p.map Value.string)) :
    Calls Tryz.prog 104 #[.slice ao n cap] w
      fun e w' => ∃ ro rc, e = .returned (.slice ro (wideB p) rc) ∧ w'.ownsRow w.heap.size 9 1 (.slice ro (wideB p) rc) (wideB p) ((transB p).map Value.string) ∧ Below w.heap.size w w' := by
  subst hn
  obtain ⟨ib, hbi, hbz, hb1, hb2⟩ := info_parts Tryz.infoByte
  obtain ⟨it, hti, htz, ht1, ht2⟩ := info_parts Tryz.infoText
  obtain ⟨b, hbd⟩ : ∃ b, b = (fun k i => byteAt p i k) := ⟨_, rfl⟩
  have hbe : ∀ k t, k < wideB p → t < p.length → b k t = byteAt p t k := fun k t hk ht => by subst hbd; rfl
  have HBE := Lib.hid hbe; clear hbe
  have hsz : ∀ i, i < p.length → (p.getD i ByteArray.empty).size = wideB p := he
  have HSZ := Lib.hid hsz; clear hsz he
  have HBD := Lib.hid hbd; clear hbd
  have HC := Lib.hid hc
  obtain ⟨b0, off0, ha0, hc0⟩ := hc.str 0 (by omega)
  subst ha0
  rw [Nat.add_zero] at hc0
  have hs0 : (p.getD 0 ByteArray.empty).size = wideB p := rfl
  generalize p.getD 0 ByteArray.empty = s0 at *
  have hp0 : 0 < p.length := h1
  clear hc
  go_enter Tryz.func104, Tryz.ntmps104
  go_wp2
  have hW1 := below_alloc w (.cells #[] 9)
  have hr1 : (w.alloc (.cells #[] 9)).ownsRow w.heap.size 9 1 (.slice (some ⟨w.heap.size, 0, none⟩) 0 0) 0 ((matB 0 (p.length) b).map Value.string) := World.ownsRow_made w #[] 0 (Nat.le_refl _) (Nat.zero_le _) rfl
  go_loopw [3, 4] (fun vo vk wr => ∃ (k : Nat) (ro : Option Addr) (rc : Nat), k ≤ wideB p ∧ vk = .int .i64 k ∧ vo = .slice ro k rc ∧ wr.ownsRow w.heap.size 9 1 (.slice ro k rc) k ((matB k (p.length) b).map Value.string) ∧ Below w.heap.size w wr) (fun _ k _ => wideB p - (intOf k).toNat)
  case atStart => exact ⟨0, _, _, Nat.zero_le _, rfl, rfl, hr1, hW1⟩
  case round =>
    clear hr1 hW1
    obtain ⟨k, ro, rc, hk, rfl, rfl, hrow, hb⟩ := hrel
    have hbs := hb.size
    have hc0r := cell_below hc0 hb
    by_cases hlt : k < wideB p
    · go_wp2
      go_loopw [5, 6] (fun vr vi wm => ∃ (t : Nat) (so : Option Addr) (sc : Nat), t ≤ p.length ∧ vi = .int .i64 (t : Int) ∧ vr = .slice so t sc ∧ wm.ownsRow w.heap.size 5 1 (.slice so t sc) t ((rowM t b k).map byteV) ∧
          wm.ownsRow w.heap.size 9 1 (.slice ro k rc) k ((matB k (p.length) b).map Value.string) ∧ Apart so ro ∧ Below w.heap.size w wm) (fun _ vi _ => p.length - (intOf vi).toNat)
      case atStart => exact ⟨0, _, 0, Nat.zero_le _, rfl, rfl, World.ownsRow_made wr #[] 0 hbs (Nat.zero_le _) rfl, hrow.alloc _, (Apart.fresh (fun a ha => (owns_lt hrow a ha).2) (Nat.le_refl _) 0 none).symm, hb.alloc hbs _⟩
      case round =>
        clear hrow hb hbs hc0r
        obtain ⟨t, so, sc, ht, rfl, rfl, hnam, hrow, hap, hb⟩ := hrel
        have hbs := hb.size
        by_cases htl : t < p.length
        · have hbv : b k t = byteAt p t k := by rw [HBE.out k t hlt htl]
          have hrl : t < p.length := by omega
          have hcl : k < wideB p := by omega
          obtain ⟨b2, off2, ha2, hc2⟩ := (HC.out.below hb).str t hrl
          simp only [Option.some.injEq, Addr.mk.injEq, and_true] at ha2
          obtain ⟨rfl, rfl⟩ := ha2
          have hcs : k < (p.getD t ByteArray.empty).size := by rw [HSZ.out t hrl]; omega
          have hidx := at_list (p.getD t ByteArray.empty) k hcs
          unfold byteAt at hbv
          have HBV := Lib.hid hbv; clear hbv
          have HRS := Lib.hid (rowM_succ t b k)
          have hb1' : t + 1 ≤ maxLen := by unfold maxLen; omega
          have hb2' : (t + 1) * 1 ≤ 140737488355328 := by omega
          have HEL := Lib.hid (byte_elem (b k t) (rowM t b k))
          generalize hgd : (p.getD t ByteArray.empty).data.toList.getD k 0 = c at *
          generalize p.getD t ByteArray.empty = s at *
          clear hgd
          go_wp2_with (at_builtin; refine wpList_push _ rfl (.tmp 23) (.tmp 30) 22 rfl w.heap.size 5 ib (.int .u8 0) 1 Tryz.underlying22 hbi hbz hb1 hb2 rfl so t sc _ rfl (hnam.alloc _) _ _ _ rfl (cell_new _ _ _) rfl hb1' hb2' (by simp; omega) ?_; intro so2 sc2 w2 hnam2 hg2 hnew2)
          have hlt3 := owns_lt hrow
          have hnm : (rowM t b k).map byteV ++ [Value.int .u8 (c.toNat : Int)] = (rowM (t + 1) b k).map byteV := by rw [HRS.out, ← HEL.out, HBV.out]
          have HNM := Lib.hid hnm; clear hnm
          go_roundw
          case rel => exact ⟨t + 1, so2, sc2, by omega, by go_num, rfl, owns_eq hnam2 HNM.out, owns_push_other hrow hg2 hap.symm, apart_push hap hnew2 (fun a ha => (hlt3 a ha).2), below_push hb hbs hg2 (fun a ha => (owns_lt hnam a ha).1)⟩
          case measure => first | (simp [intOf]; omega) | simp [intOf]
        · obtain rfl : t = p.length := by omega
          have HST := Lib.hid (matB_succ k (p.length) b)
          have hst : (matB k (p.length) b).map Value.string ++ [.string ⟨(rowM (p.length) b k).toArray⟩] = (matB (k + 1) (p.length) b).map Value.string := by rw [HST.out, List.map_append]; rfl
          have HSTT := Lib.hid hst; clear hst
          have hb1' : k + 1 ≤ maxLen := by unfold maxLen; omega
          have hb2' : (k + 1) * 16 ≤ 140737488355328 := by omega
          go_wp2_with (first
            | (at_builtin; refine wpList_push _ rfl (.tmp 32) (.tmp 35) 23 rfl w.heap.size 9 it (.string ⟨#[]⟩) 16 Tryz.underlying23 hti htz ht1 ht2 rfl ro k rc _ rfl (hrow.alloc _) _ _ _ rfl (cell_new _ _ _) rfl hb1' hb2' (by simp; omega) ?_; intro ro2 rc2 w2 hrow2 hg2 hnew2)
            | (refine wpList_str_of_bytes _ rfl 22 9 5 _ rfl Tryz.underlying22 Tryz.underlying5 Tryz.underlying9 so (p.length) sc rfl (rowM (p.length) b k) (rowM_len _ _ _) (owns_cells hnam) ?_))
          go_roundw
          case rel => exact ⟨k + 1, ro2, rc2, by omega, by go_num, rfl, owns_eq hrow2 HSTT.out, below_push hb hbs hg2 (fun a ha => (owns_lt hrow a ha).1)⟩
          case measure => simp [intOf]; omega
    · obtain rfl : k = wideB p := by omega
      rw [HBD.out] at hrow
      go_wp2
      go_ret
      exact ⟨_, _, rfl, hrow, hb⟩

end Go.Proofs.YtobkbgbkkiiloaaGreat

/-
  The model writes rows so often, and leaves out rows. (Walks.)
-/
namespace Go.Proofs.YtobkbgbkkiiloaaGreat
open Go.RowKit

end Go.Proofs.YtobkbgbkkiiloaaGreat

/-
  The program's texts of plans that came out. (Walks.)
-/
namespace Go.Proofs.YtobkbgbkkiiloaaGreat
open Go.RowKit

end Go.Proofs.YtobkbgbkkiiloaaGreat

/-
  The program turns a plan, reads it backwards, exchanges its rows and columns. (Walks.)
-/
namespace Go.Proofs.YtobkbgbkkiiloaaGreat
open Go.RowKit

end Go.Proofs.YtobkbgbkkiiloaaGreat

/-
  Plans turned, read backwards, with rows and columns exchanged: the model's answers and the program's. (Walks, and the mathematics of it.)
-/
namespace Go.Proofs.YtobkbgbkkiiloaaGreat
open Go.RowKit

theorem GridP.letter {p : List ByteArray} (hp : GridP p) {i j : Nat} (hi : i < p.length) (hj : j < wideB p) : byteAt p i j = UInt8.ofNat (97 + markN p i j) := by
  have := (hp.byte hi hj).1
  rw [← this]
  simp

end Go.Proofs.YtobkbgbkkiiloaaGreat

/-
  Plain mathematics: texts written by their bytes, and what the model and the program make of them.
-/
namespace Go.Proofs.YtobkbgbkkiiloaaGreat
open Go.RowKit

theorem matB_row {n m : Nat} {b : Nat → Nat → UInt8} {i : Nat} (hi : i < n) : (matB n m b).getD i ByteArray.empty = ⟨(rowM m b i).toArray⟩ := by
  unfold matB
  simp [hi]
theorem byteAt_mat {n m : Nat} {b : Nat → Nat → UInt8} {i j : Nat} (hi : i < n) (hj : j < m) : byteAt (matB n m b) i j = b i j := by
  unfold byteAt
  rw [matB_row hi]
  unfold rowM
  simp [hj]
theorem matB_wide {n m : Nat} {b : Nat → Nat → UInt8} (hn : 1 ≤ n) : wideB (matB n m b) = m := by
  unfold wideB
  rw [matB_row (by omega), ← size_list]
  exact rowM_len m b 0
theorem matB_even {n m : Nat} {b : Nat → Nat → UInt8} (hn : 1 ≤ n) : Even (matB n m b) := fun i hi => by
  rw [matB_len] at hi
  rw [matB_wide hn, matB_row hi, ← size_list]
  exact rowM_len m b i

/-! ### texts so often -/

end Go.Proofs.YtobkbgbkkiiloaaGreat
