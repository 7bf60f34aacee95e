/-
  Merged texts: SpecE SpecF SpecG ImplI ImplJ TurnA MathG.
-/
import Derived.Test.YtpgcpmfemcfoaaaMathCER

/-
  The model's answers on names and rooms. (Walks.)
-/
namespace Go.Proofs.Ytpgcpmfemcfoaaa
open Go.RowKit

/-- a call hands back texts of the call's own, and a word whether there are any -/
def TextsRet (base : Nat) (T : List ByteArray) (b : Bool) (e : Ending) (w' : World) : Prop :=
  ∃ ro rc, e = .returned (.tuple #[.slice ro T.length rc, .bool b]) ∧ w'.ownsRow base 9 1 (.slice ro T.length rc) T.length (T.map Value.string)

/-- the texts of what a change comes to -/
def orNone (b : Bool) (T : List ByteArray) : List ByteArray := if b then T else []
theorem orNone_yes {b : Bool} {T : List ByteArray} (h : b = true) : orNone b T = T := by rw [h]; rfl
theorem orNone_no {b : Bool} {T : List ByteArray} (h : b = false) : orNone b T = [] := by rw [h]; rfl

theorem l1None_any (w : World) : Calls Try.prog 145 #[] w fun e w' => TextsRet w.heap.size [] false e w' ∧ Below w.heap.size w w' := by
  have ho : (w.alloc (.cells #[] 9)).ownsRow w.heap.size 9 1 (.slice (some ⟨w.heap.size, 0, none⟩) 0 0) 0 (([] : List ByteArray).map Value.string) := World.ownsRow_made w #[] 0 (Nat.le_refl _) (Nat.zero_le _) rfl
  go_enter Try.func145, Try.ntmps145
  go_wp2
  go_ret2
  exact ⟨⟨_, _, rfl, ho⟩, below_alloc _ _⟩

theorem names_size {p : List ByteArray} {n : Nat} (hs : ∀ s ∈ p, s.size ≤ n) : ∀ s ∈ namesB p, s.size ≤ n := fun s h => by
  unfold namesB at h
  rw [List.mem_map] at h
  obtain ⟨t, ht, rfl⟩ := h
  rw [← size_list]
  unfold namesL
  simp only [List.length_map]
  rw [size_list]
  exact hs t ht

set_option maxHeartbeats 1000000 in
theorem l1Done_any (ao : Option Addr) (cap n : Nat) (p : List ByteArray) (w : World) (hn : p.length = n) (hl : p.length ≤ 1048576) (hs : ∀ s ∈ p, s.size ≤ 1048576) (hc : CellsAt w ao (p.map Value.string)) :
    Calls Try.prog 146 #[.slice ao n cap] w fun e w' => TextsRet w.heap.size (orNone (doneB p) (namesB p)) (doneB p) e w' ∧ Below w.heap.size w w' := by
  subst hn
  cases hg : gridB p
  · have hd : doneB p = false := by unfold doneB; rw [hg]; rfl
    rw [orNone_no hd, hd]
    go_enter Try.func146, Try.ntmps146
    go_wp2_with (first
      | (go_at_call 116; refine (l1Grid_any _ _ _ _ hl hs hc).mono ?_; rw [hg]; rintro e w1 ⟨rfl, hq1⟩)
      | (go_at_call 145; refine (l1None_any _).mono ?_; rintro e w2 ⟨⟨ro, rc, rfl, hown2⟩, hb2⟩))
    go_ret2
    exact ⟨⟨_, _, rfl, ownsRow_base hown2 (by rw [hq1.size]; exact Nat.le_refl _)⟩, (hq1.below _).trans (hb2.mono (by rw [hq1.size]; exact Nat.le_refl _))⟩
  · have hdim := gridB_len hg
    have hrow := gridB_row hg
    have hs6 : ∀ s ∈ p, s.size ≤ 6 := fun s h => (hrow s h).2.2.1
    have hl6 := hdim.2
    have hnl : (namesB p).length ≤ 1048576 := by rw [namesB_len]; omega
    have hns : ∀ s ∈ namesB p, s.size ≤ 1048576 := fun s h => Nat.le_trans (names_size hs6 s h) (by omega)
    have HSP := Lib.hid (fun (ao : Option Addr) (cap : Nat) (w : World) (h : CellsAt w ao ((namesB p).map Value.string)) => specPlanIn_any ao cap (namesB p) w hnl hns h)
    rw [namesB_len] at HSP
    have hde : doneB p = planB (namesB p) := by unfold doneB; rw [hg, Bool.true_and]
    clear hnl hns hrow
    cases hp : planB (namesB p)
    · rw [hp] at hde HSP
      rw [orNone_no hde, hde]
      go_enter Try.func146, Try.ntmps146
      go_wp2_with (first
        | (go_at_call 116; refine (l1Grid_any _ _ _ _ hl hs hc).mono ?_; rw [hg]; rintro e w1 ⟨rfl, hq1⟩; have hc1 := hq1.cells hc)
        | (go_at_call 118; refine (l1Names_any _ _ _ _ hl6 hs6 hc1).mono ?_; rintro e w2 ⟨ro, rc, rfl, hown2, hb2⟩; have hcn := owns_cells hown2)
        | (go_at_call 88; refine (HSP.out _ _ _ hcn).mono ?_; rintro e w3 ⟨rfl, hb3⟩)
        | (go_at_call 145; refine (l1None_any _).mono ?_; rintro e w4 ⟨⟨ro4, rc4, rfl, hown4⟩, hb4⟩))
      have hq1s := hq1.size
      have h13 : Below w.heap.size w w3 := (hq1.below _).trans ((below_step hb2 hb2.size hb3).mono (by omega))
      go_ret2
      exact ⟨⟨_, _, rfl, ownsRow_base hown4 h13.size⟩, below_step h13 h13.size hb4⟩
    · rw [hp] at hde HSP
      rw [orNone_yes hde, hde]
      go_enter Try.func146, Try.ntmps146
      go_wp2_with fail
      refine (l1Grid_any _ _ _ _ hl hs hc).mono ?_
      rw [hg]
      rintro e w1 ⟨rfl, hq1⟩
      have hc1 := hq1.cells hc
      go_wp2_with fail
      refine (l1Names_any _ _ _ _ hl6 hs6 hc1).mono ?_
      rintro e w2 ⟨ro, rc, rfl, hown2, hb2⟩
      have hcn := owns_cells hown2
      have hc2 := hc1.below hb2
      go_wp2_with fail
      refine (HSP.out _ _ _ hcn).mono ?_
      rintro e w3 ⟨rfl, hb3⟩
      have hc3 := hc2.below hb3
      go_wp2_with fail
      refine (l1Names_any _ _ _ _ hl6 hs6 hc3).mono ?_
      rintro e w4 ⟨ro4, rc4, rfl, hown4, hb4⟩
      go_wp2
      have hq1s := hq1.size
      have h13 : Below w.heap.size w w3 := (hq1.below _).trans ((below_step hb2 hb2.size hb3).mono (by omega))
      go_ret2
      exact ⟨⟨ro4, rc4, by rw [namesB_len]; rfl, by rw [namesB_len]; exact ownsRow_base hown4 h13.size⟩, below_step h13 h13.size hb4⟩

end Go.Proofs.Ytpgcpmfemcfoaaa

/-
  The model's lists of texts turned, read backwards, with rows and columns exchanged. (Walks.)
-/
namespace Go.Proofs.Ytpgcpmfemcfoaaa
open Go.RowKit

/-- texts by their bytes -/
def rowM (m : Nat) (b : Nat → Nat → UInt8) (i : Nat) : List UInt8 := (List.range m).map (b i)
def matB (n m : Nat) (b : Nat → Nat → UInt8) : List ByteArray := (List.range n).map fun i => ⟨(rowM m b i).toArray⟩
theorem rowM_len (m : Nat) (b : Nat → Nat → UInt8) (i : Nat) : (rowM m b i).length = m := by simp [rowM]
theorem rowM_succ (m : Nat) (b : Nat → Nat → UInt8) (i : Nat) : rowM (m + 1) b i = rowM m b i ++ [b i m] := by simp [rowM, List.range_succ]
theorem matB_len (n m : Nat) (b : Nat → Nat → UInt8) : (matB n m b).length = n := by simp [matB]
theorem matB_succ (n m : Nat) (b : Nat → Nat → UInt8) : matB (n + 1) m b = matB n m b ++ [⟨(rowM m b n).toArray⟩] := by simp [matB, List.range_succ]
theorem matB_size {n m : Nat} {b : Nat → Nat → UInt8} : ∀ s ∈ matB n m b, s.size = m := fun s hs => by
  unfold matB at hs
  rw [List.mem_map] at hs
  obtain ⟨i, _, rfl⟩ := hs
  rw [← size_list]
  exact rowM_len _ _ _
theorem byte_elem (c : UInt8) (l : List UInt8) : l.map byteV ++ [Value.int .u8 (c.toNat : Int)] = (l ++ [c]).map byteV := by simp [byteV]

def transB (p : List ByteArray) : List ByteArray := matB (wideB p) p.length (fun k i => byteAt p i k)

set_option maxHeartbeats 1000000 in
theorem l1Trans_any (ao : Option Addr) (cap n : Nat) (p : List ByteArray) (w : World) (hn : p.length = n) (h1 : 1 ≤ p.length) (hl : p.length ≤ 1048576) (hw : wideB p ≤ 1048576) (he : Even p)
    (hc : CellsAt w ao (p.map Value.string)) :
    Calls Try.prog 141 #[.slice ao n cap] w
      fun e w' => ∃ ro rc, e = .returned (.slice ro (wideB p) rc) ∧ w'.ownsRow w.heap.size 9 1 (.slice ro (wideB p) rc) (wideB p) ((transB p).map Value.string) ∧ Below w.heap.size w w' := by
  subst hn
  obtain ⟨ib, hbi, hbz, hb1, hb2⟩ := info_parts Try.infoByte
  obtain ⟨it, hti, htz, ht1, ht2⟩ := info_parts Try.infoText
  obtain ⟨b, hbd⟩ : ∃ b, b = (fun k i => byteAt p i k) := ⟨_, rfl⟩
  have hbe : ∀ k t, k < wideB p → t < p.length → b k t = byteAt p t k := fun k t hk ht => by subst hbd; rfl
  have HBE := Lib.hid hbe; clear hbe
  have hsz : ∀ i, i < p.length → (p.getD i ByteArray.empty).size = wideB p := he
  have HSZ := Lib.hid hsz; clear hsz he
  have HBD := Lib.hid hbd; clear hbd
  have HC := Lib.hid hc
  obtain ⟨b0, off0, ha0, hc0⟩ := hc.str 0 (by omega)
  subst ha0
  rw [Nat.add_zero] at hc0
  have hs0 : (p.getD 0 ByteArray.empty).size = wideB p := rfl
  generalize p.getD 0 ByteArray.empty = s0 at *
  have hp0 : 0 < p.length := h1
  clear hc
  go_enter Try.func141, Try.ntmps141
  go_wp2
  have hW1 := below_alloc w (.cells #[] 9)
  have hr1 : (w.alloc (.cells #[] 9)).ownsRow w.heap.size 9 1 (.slice (some ⟨w.heap.size, 0, none⟩) 0 0) 0 ((matB 0 (p.length) b).map Value.string) := World.ownsRow_made w #[] 0 (Nat.le_refl _) (Nat.zero_le _) rfl
  go_loopw [3, 4] (fun vo vk wr => ∃ (k : Nat) (ro : Option Addr) (rc : Nat), k ≤ wideB p ∧ vk = .int .i64 k ∧ vo = .slice ro k rc ∧ wr.ownsRow w.heap.size 9 1 (.slice ro k rc) k ((matB k (p.length) b).map Value.string) ∧ Below w.heap.size w wr) (fun _ k _ => wideB p - (intOf k).toNat)
  case atStart => exact ⟨0, _, _, Nat.zero_le _, rfl, rfl, hr1, hW1⟩
  case round =>
    clear hr1 hW1
    obtain ⟨k, ro, rc, hk, rfl, rfl, hrow, hb⟩ := hrel
    have hbs := hb.size
    have hc0r := cell_below hc0 hb
    by_cases hlt : k < wideB p
    · go_wp2
      go_loopw [5, 6] (fun vr vi wm => ∃ (t : Nat) (so : Option Addr) (sc : Nat), t ≤ p.length ∧ vi = .int .i64 (t : Int) ∧ vr = .slice so t sc ∧ wm.ownsRow w.heap.size 5 1 (.slice so t sc) t ((rowM t b k).map byteV) ∧
          wm.ownsRow w.heap.size 9 1 (.slice ro k rc) k ((matB k (p.length) b).map Value.string) ∧ Apart so ro ∧ Below w.heap.size w wm) (fun _ vi _ => p.length - (intOf vi).toNat)
      case atStart => exact ⟨0, _, 0, Nat.zero_le _, rfl, rfl, World.ownsRow_made wr #[] 0 hbs (Nat.zero_le _) rfl, hrow.alloc _, (Apart.fresh (fun a ha => (owns_lt hrow a ha).2) (Nat.le_refl _) 0 none).symm, hb.alloc hbs _⟩
      case round =>
        clear hrow hb hbs hc0r
        obtain ⟨t, so, sc, ht, rfl, rfl, hnam, hrow, hap, hb⟩ := hrel
        have hbs := hb.size
        by_cases htl : t < p.length
        · have hbv : b k t = byteAt p t k := by rw [HBE.out k t hlt htl]
          have hrl : t < p.length := by omega
          have hcl : k < wideB p := by omega
          obtain ⟨b2, off2, ha2, hc2⟩ := (HC.out.below hb).str t hrl
          simp only [Option.some.injEq, Addr.mk.injEq, and_true] at ha2
          obtain ⟨rfl, rfl⟩ := ha2
          have hcs : k < (p.getD t ByteArray.empty).size := by rw [HSZ.out t hrl]; omega
          have hidx := at_list (p.getD t ByteArray.empty) k hcs
          unfold byteAt at hbv
          have HBV := Lib.hid hbv; clear hbv
          have HRS := Lib.hid (rowM_succ t b k)
          have hb1' : t + 1 ≤ maxLen := by unfold maxLen; omega
          have hb2' : (t + 1) * 1 ≤ 140737488355328 := by omega
          have HEL := Lib.hid (byte_elem (b k t) (rowM t b k))
          generalize hgd : (p.getD t ByteArray.empty).data.toList.getD k 0 = c at *
          generalize p.getD t ByteArray.empty = s at *
          clear hgd
          go_wp2_with (at_builtin; refine wpList_push _ rfl (.tmp 23) (.tmp 30) 22 rfl w.heap.size 5 ib (.int .u8 0) 1 Try.underlying22 hbi hbz hb1 hb2 rfl so t sc _ rfl (hnam.alloc _) _ _ _ rfl (cell_new _ _ _) rfl hb1' hb2' (by simp; omega) ?_; intro so2 sc2 w2 hnam2 hg2 hnew2)
          have hlt3 := owns_lt hrow
          have hnm : (rowM t b k).map byteV ++ [Value.int .u8 (c.toNat : Int)] = (rowM (t + 1) b k).map byteV := by rw [HRS.out, ← HEL.out, HBV.out]
          have HNM := Lib.hid hnm; clear hnm
          go_roundw
          case rel => exact ⟨t + 1, so2, sc2, by omega, by go_num, rfl, owns_eq hnam2 HNM.out, owns_push_other hrow hg2 hap.symm, apart_push hap hnew2 (fun a ha => (hlt3 a ha).2), below_push hb hbs hg2 (fun a ha => (owns_lt hnam a ha).1)⟩
          case measure => first | (simp [intOf]; omega) | simp [intOf]
        · obtain rfl : t = p.length := by omega
          have HST := Lib.hid (matB_succ k (p.length) b)
          have hst : (matB k (p.length) b).map Value.string ++ [.string ⟨(rowM (p.length) b k).toArray⟩] = (matB (k + 1) (p.length) b).map Value.string := by rw [HST.out, List.map_append]; rfl
          have HSTT := Lib.hid hst; clear hst
          have hb1' : k + 1 ≤ maxLen := by unfold maxLen; omega
          have hb2' : (k + 1) * 16 ≤ 140737488355328 := by omega
          go_wp2_with (first
            | (at_builtin; refine wpList_push _ rfl (.tmp 32) (.tmp 35) 23 rfl w.heap.size 9 it (.string ⟨#[]⟩) 16 Try.underlying23 hti htz ht1 ht2 rfl ro k rc _ rfl (hrow.alloc _) _ _ _ rfl (cell_new _ _ _) rfl hb1' hb2' (by simp; omega) ?_; intro ro2 rc2 w2 hrow2 hg2 hnew2)
            | (refine wpList_str_of_bytes _ rfl 22 9 5 _ rfl Try.underlying22 Try.underlying5 Try.underlying9 so (p.length) sc rfl (rowM (p.length) b k) (rowM_len _ _ _) (owns_cells hnam) ?_))
          go_roundw
          case rel => exact ⟨k + 1, ro2, rc2, by omega, by go_num, rfl, owns_eq hrow2 HSTT.out, below_push hb hbs hg2 (fun a ha => (owns_lt hrow a ha).1)⟩
          case measure => simp [intOf]; omega
    · obtain rfl : k = wideB p := by omega
      rw [HBD.out] at hrow
      go_wp2
      go_ret
      exact ⟨_, _, rfl, hrow, hb⟩

def turnB (p : List ByteArray) : List ByteArray := matB (wideB p) p.length (fun k t => byteAt p (p.length - 1 - t) k)

def flipB (p : List ByteArray) : List ByteArray := matB p.length (wideB p) (fun k t => byteAt p k (wideB p - 1 - t))

end Go.Proofs.Ytpgcpmfemcfoaaa

/-
  The model writes rows so often, and leaves out rows. (Walks.)
-/
namespace Go.Proofs.Ytpgcpmfemcfoaaa
open Go.RowKit

end Go.Proofs.Ytpgcpmfemcfoaaa

/-
  The program's texts of plans that came out. (Walks.)
-/
namespace Go.Proofs.Ytpgcpmfemcfoaaa
open Go.RowKit

theorem owns_none (w : World) (base : Nat) : w.ownsRow base 9 1 (.slice none 0 0) 0 (([] : List ByteArray).map Value.string) := ⟨rfl, .inl ⟨rfl, rfl⟩⟩

set_option maxHeartbeats 400000 in
theorem tellPlan_any (C : Array Value) (b : Bool) (h wd r : Nat) (g : Nat → Nat → Nat) (w : World) (hb : b = true → C = planC h wd r g ∧ h ≤ 6 ∧ wd ≤ 6 ∧ ∀ i j, g i j ≤ 100) :
    Calls Try.prog 74 #[.agg C, .bool b] w fun e w' => TextsRet w.heap.size (orNone b (rowsT h wd g)) b e w' ∧ Below w.heap.size w w' := by
  cases b
  · go_enter Try.func74, Try.ntmps74
    go_wp2
    go_ret2
    exact ⟨⟨_, _, rfl, owns_none _ _⟩, below_alloc _ _⟩
  · obtain ⟨hC, hh, hw, hg⟩ := hb rfl
    rw [orNone_yes rfl]
    have HROWS := Lib.hid (fun w => rows_any h wd r g w hh hw hg)
    rw [← hC] at HROWS
    have HSZ := Lib.hid (show (Try.prog.info? 47).map (·.size) = some C.size by rw [hC]; exact plan_size _ _ _ _)
    clear hC hb hg
    have hG : (w.alloc (.cells C 47)).heap[w.heap.size]? = some (.cells C 47 (0, 0)) := HeldB.new w 47 C
    go_enter Try.func74, Try.ntmps74
    go_wp2_with (first
      | (refine wpList_load_row rfl 47 _ rfl w.heap.size rfl 47 C (0, 0) _ hG Try.underlying47 rfl HSZ.out ?_)
      | (go_at_call 92; refine (HROWS.out _).mono ?_; rintro e w2 ⟨ro, rc, rfl, hown2, hb2⟩))
    go_ret2
    exact ⟨⟨ro, rc, by rw [rowsT_len]; rfl, by rw [rowsT_len]; exact ownsRow_base hown2 (by simp)⟩, (below_alloc w _).trans (hb2.mono (by simp))⟩

set_option maxHeartbeats 400000 in
/-- a plan is read, changed, and told -/
theorem redraw_any (fid : Nat) (lb : Array Value) (b : Bool) (C : Array Value) (h wd r : Nat) (g : Nat → Nat → Nat) (ao : Option Addr) (cap : Nat) (p : List ByteArray) (w : World) (hl : p.length ≤ 1048576) (hs : ∀ s ∈ p, s.size ≤ 1048576) (hc : CellsAt w ao (p.map Value.string))
    (eg : ∀ args w, (callFunc fid args).run Try.prog w = .ok (.enter fid args) w)
    (hch : readOk p = true → ∀ W, Below w.heap.size w W → Calls Try.prog fid (#[.agg (readC p)] ++ lb) W fun e W' => e = .returned (.tuple #[.agg C, .bool b]) ∧ Below W.heap.size W W')
    (hb : b = true → C = planC h wd r g ∧ h ≤ 6 ∧ wd ≤ 6 ∧ ∀ i j, g i j ≤ 100) :
    Calls Try.prog 40 #[.slice ao p.length cap, .func (.func fid) #[] lb] w fun e w' => TextsRet w.heap.size (orNone (readOk p && b) (rowsT h wd g)) (readOk p && b) e w' ∧ Below w.heap.size w w' := by
  have HSZ := Lib.hid (readC_size p)
  have HS39 := Lib.hid (readC_39 p)
  have HONE := Lib.hid (readC_one p)
  have HB := Lib.hid hb; clear hb
  cases hr : readOk p
  · clear hch
    rw [Bool.false_and]
    go_enter Try.func40, Try.ntmps40
    go_wp2_with (first
      | (go_at_call 60; refine (readPlan_any _ _ _ _ hl hs hc).mono ?_; rw [hr]; rintro e w1 ⟨rfl, hb1⟩)
      | (refine wpList_alloc_zero rfl 47 rfl zeroC zero_plan ?_)
      | (refine wpList_store_new rfl 47 _ _ rfl w1 zeroC (readC p) rfl rfl rfl HSZ.out (by rw [HS39.out]; rfl) HONE.out ?_))
    go_ret2
    exact ⟨⟨_, _, rfl, owns_none _ _⟩, hb1.trans ((below_alloc w1 _).mono hb1.size)⟩
  · have HCH := Lib.hid (hch hr); clear hch
    rw [Bool.true_and]
    go_enter Try.func40, Try.ntmps40
    go_wp2_with (first
      | (go_at_call 60; refine (readPlan_any _ _ _ _ hl hs hc).mono ?_; rw [hr]; rintro e w1 ⟨rfl, hb1⟩)
      | (refine wpList_alloc_zero rfl 47 rfl zeroC zero_plan ?_)
      | (refine wpList_store_new rfl 47 _ _ rfl w1 zeroC (readC p) rfl rfl rfl HSZ.out (by rw [HS39.out]; rfl) HONE.out ?_; have hG : (w1.alloc (.cells (readC p) 47)).heap[w1.heap.size]? = some (.cells (readC p) 47 (0, 0)) := HeldB.new w1 47 (readC p))
      | (refine wpList_load_row rfl 47 _ rfl w1.heap.size rfl 47 (readC p) (0, 0) _ hG Try.underlying47 rfl HSZ.out ?_))
    have hbw := hb1.trans ((below_alloc w1 (.cells (readC p) 47)).mono hb1.size)
    refine (HCH.out _ hbw).mono ?_
    rintro e w2 ⟨rfl, hb2⟩
    go_wp2_with (go_at_call 74; refine (tellPlan_any _ _ _ _ _ _ _ HB.out).mono ?_; rintro e w3 ⟨⟨ro, rc, rfl, hown3⟩, hb3⟩)
    have hb12 := below_step hbw hbw.size hb2
    go_ret2
    exact ⟨⟨ro, rc, rfl, ownsRow_base hown3 hb12.size⟩, below_step hb12 hb12.size hb3⟩

end Go.Proofs.Ytpgcpmfemcfoaaa

/-
  The program turns a plan, reads it backwards, exchanges its rows and columns. (Walks.)
-/
namespace Go.Proofs.Ytpgcpmfemcfoaaa
open Go.RowKit

set_option maxHeartbeats 400000 in
theorem turnMark_any (B h wd r : Nat) (g : Nat → Nat → Nat) (w : World) (hB : HeldB w B 47 (planC h wd r g)) (hh : h ≤ 6) (hw : wd ≤ 6) (i j : Nat) (hi : i < wd) (hj : j < h) :
    Calls Try.prog 76 #[.int .i64 i, .int .i64 j, .pointer (some ⟨B, 0, none⟩)] w
      fun e w' => e = .returned (.int .i64 (g (h - 1 - j) i : Nat)) ∧ Below w.heap.size w w' := by
  have c0 : w.cell? ⟨B, 0, none⟩ = some (.int .i64 h) := (hB.cell 0).trans (planC_0 _ _ _ _)
  obtain ⟨r', hr⟩ : ∃ r', r' = h - 1 - j := ⟨_, rfl⟩
  have hr6 : r' < 6 := by omega
  have e1 : (h : Int) - 1 - (j : Int) = (r' : Int) := by omega
  have cc : w.cell? ⟨B, 3 + r' * 6 + i, none⟩ = some (.int .i64 (g r' i : Nat)) := (hB.cell _).trans (planC_at _ _ _ _ r' i hr6 (by omega))
  rw [← hr]
  have hi6 : i < 6 := by omega
  clear hr hB
  go_enter Try.func76, Try.ntmps76
  go_wp2
  go_ret
  exact ⟨rfl, Below.refl _ _⟩

theorem drawC_ok {h wd : Nat} {m : Nat → Nat → Nat} (hd : drawOk h wd m = true) : drawC h wd m = planC h wd (markF h wd m).length (renG h wd m) ∧ h ≤ 6 ∧ wd ≤ 6 ∧ ∀ i j, renG h wd m i j ≤ 100 := by
  obtain ⟨a, b, c, _⟩ := drawOk_iff.1 hd
  refine ⟨?_, by omega, by omega, fun i j => Nat.le_trans (renG_le _ _ _ _ _) (by omega)⟩
  unfold drawC
  rw [hd]
  rfl
theorem drawC_39 (h wd : Int) (m : Nat → Nat → Nat) : (drawC h wd m).size = 39 := by unfold drawC; split <;> exact planC_size _ _ _ _
theorem drawC_size (h wd : Int) (m : Nat → Nat → Nat) : (Try.prog.info? 47).map (·.size) = some (drawC h wd m).size := by rw [drawC_39]; kernel_rfl
theorem drawC_one (h wd : Int) (m : Nat → Nat → Nat) : (drawC h wd m).all (·.oneCell') = true := by unfold drawC; split <;> exact planC_one _ _ _ _

set_option maxHeartbeats 400000 in
theorem turn_any (h wd r : Nat) (g : Nat → Nat → Nat) (w : World) (hh : h ≤ 6) (hw : wd ≤ 6) (hg : ∀ i j, g i j < 26) :
    Calls Try.prog 41 #[.agg (planC h wd r g)] w
      fun e w' => e = .returned (.tuple #[.agg (drawC wd h (fun i j => g (h - 1 - j) i)), .bool (drawOk wd h (fun i j => g (h - 1 - j) i))]) ∧ Below w.heap.size w w' := by
  have HD := Lib.hid (fun (W : World) (hB : HeldB W w.heap.size 47 (planC h wd r g)) => drawPlan_any 76 #[.pointer (some ⟨w.heap.size, 0, none⟩)] wd h (fun i j => g (h - 1 - j) i) W Try.call76 (fun _ _ => hg _ _)
    (fun W2 hb2 i j hi hj => turnMark_any w.heap.size h wd r g W2 (hB.below hb2) hh hw i j (by omega) (by omega)))
  have HS := Lib.hid (drawC_size wd h (fun i j => g (h - 1 - j) i))
  have H39 := Lib.hid (drawC_39 wd h (fun i j => g (h - 1 - j) i))
  have HO := Lib.hid (drawC_one wd h (fun i j => g (h - 1 - j) i))
  have hP := (HeldB.new w 47 (planC h wd r g)).alloc (.cells zeroC 47)
  have hZ := HeldB.new (w.alloc (.cells (planC h wd r g) 47)) 47 zeroC
  rw [World.size_alloc] at hZ
  have hb0 : Below w.heap.size w ((w.alloc (.cells (planC h wd r g) 47)).alloc (.cells zeroC 47)) := (below_alloc w _).trans ((below_alloc _ _).mono (by simp))
  have HP := Lib.hid hP; have HZ := Lib.hid hZ
  have c0 := (hP.cell 0).trans (planC_0 _ _ _ _)
  have c1 := (hP.cell 1).trans (planC_1 _ _ _ _)
  clear hP hZ
  generalize drawC wd h (fun i j => g (h - 1 - j) i) = D at *
  generalize drawOk wd h (fun i j => g (h - 1 - j) i) = b at *
  generalize planC h wd r g = C at *
  go_enter Try.func41, Try.ntmps41
  go_wp2_with (first
    | (refine wpList_alloc_zero rfl 47 rfl zeroC zero_plan ?_)
    | (go_at_call 75; refine (HD.out _ HP.out).mono ?_; rintro e w2 ⟨rfl, hb2⟩; have hZ2 := HZ.out.below hb2; have hrow : w2.heap[w.heap.size + 1]? = some (.cells zeroC 47 (0, 0)) := hZ2)
    | (refine wpList_store_row rfl 47 _ _ rfl (w.heap.size + 1) D rfl rfl _ _ hrow HS.out (by rw [H39.out]; rfl) HO.out ?_))
  refine bodyPost_ret (results_plan rfl rfl (hZ2.setRow D) H39.out rfl) rfl ⟨rfl, below_setRowB (below_step hb0 hb0.size hb2) (Nat.le_succ _) _⟩

end Go.Proofs.Ytpgcpmfemcfoaaa

/-
  Plans turned, read backwards, with rows and columns exchanged: the model's answers and the program's. (Walks, and the mathematics of it.)
-/
namespace Go.Proofs.Ytpgcpmfemcfoaaa
open Go.RowKit

theorem mat_rows {n m : Nat} {b : Nat → Nat → UInt8} {g : Nat → Nat → Nat} (he : ∀ i j, i < n → j < m → b i j = UInt8.ofNat (97 + g i j)) : matB n m b = rowsT n m g := by
  unfold matB rowsT
  refine List.map_congr_left fun i hi => ?_
  rw [List.mem_range] at hi
  congr 2
  unfold rowM rowT
  refine List.map_congr_left fun j hj => ?_
  rw [List.mem_range] at hj
  exact he i j hi hj

theorem GridP.letter {p : List ByteArray} (hp : GridP p) {i j : Nat} (hi : i < p.length) (hj : j < wideB p) : byteAt p i j = UInt8.ofNat (97 + markN p i j) := by
  have := (hp.byte hi hj).1
  rw [← this]
  simp

theorem drawOk_of {h wd R : Nat} {m : Nat → Nat → Nat} (h1 : 1 ≤ h) (h6 : h ≤ 6) (w1 : 1 ≤ wd) (w6 : wd ≤ 6) (hR : R ≤ 9) (hlt : ∀ i j, i < h → j < wd → m i j < R) (hr : RectG h wd m) : drawOk h wd m = true :=
  drawOk_iff.2 ⟨⟨h1, h6⟩, ⟨w1, w6⟩, Nat.le_trans (markF_few hlt) hR, hr⟩

theorem turn_math {p : List ByteArray} (h : planB p = true) : drawOk (wideB p) p.length (fun i j => gridG p (p.length - 1 - j) i) = true ∧ namesB (turnB p) = rowsT (wideB p) p.length (renG (wideB p) p.length (fun i j => gridG p (p.length - 1 - j) i)) := by
  have hp := planP_of h
  have h1 := hp.grid.h1; have h6 := hp.grid.h6; have w1 := hp.grid.w1; have w6 := hp.grid.w6
  have he : ∀ i j, i < (wideB p) → j < p.length → (fun i j => markN p (p.length - 1 - j) i) i j = (fun i j => gridG p (p.length - 1 - j) i) i j := fun i j hi hj => hp.mark _ _ (by omega) (by omega)
  have hlt : ∀ i j, i < (wideB p) → j < p.length → (fun i j => markN p (p.length - 1 - j) i) i j < gridR p := fun i j hi hj => hp.lt (by omega) (by omega)
  have hrect : RectG (wideB p) p.length (fun i j => markN p (p.length - 1 - j) i) := (hp.rect.pull (pull_back _) (pull_id _)).swap
  have hd := drawOk_of (by omega) (by omega) (by omega) (by omega) hp.few hlt hrect
  have ht : turnB p = rowsT (wideB p) p.length (fun i j => markN p (p.length - 1 - j) i) := mat_rows fun i j hi hj => hp.grid.letter (by omega) (by omega)
  refine ⟨by rw [← drawOk_congr he]; exact hd, ?_⟩
  rw [ht, names_rows (by omega) (by omega) (by omega) (by omega) (fun i j hi hj => Nat.lt_of_lt_of_le (hlt i j hi hj) (by have := hp.few; omega)), renG_congr he]

theorem implTurn_any (ao : Option Addr) (cap : Nat) (p : List ByteArray) (w : World) (hl : p.length ≤ 1048576) (hs : ∀ s ∈ p, s.size ≤ 1048576) (hc : CellsAt w ao (p.map Value.string)) :
    Calls Try.prog 12 #[.slice ao p.length cap] w fun e w' => TextsRet w.heap.size (orNone (planB p) (namesB (turnB p))) (planB p) e w' ∧ Below w.heap.size w w' := by
  have hT : orNone (planB p) (namesB (turnB p)) = orNone (readOk p && drawOk (wideB p) p.length (fun i j => gridG p (p.length - 1 - j) i)) (rowsT (wideB p) p.length (renG (wideB p) p.length (fun i j => gridG p (p.length - 1 - j) i))) ∧ planB p = (readOk p && drawOk (wideB p) p.length (fun i j => gridG p (p.length - 1 - j) i)) := by
    rw [readOk_eq]
    cases hp : planB p
    · exact ⟨rfl, rfl⟩
    · rw [(turn_math hp).1, (turn_math hp).2]; exact ⟨rfl, rfl⟩
  have HR := Lib.hid (fun w => redraw_any 41 #[] (drawOk (wideB p) p.length (fun i j => gridG p (p.length - 1 - j) i)) (drawC (wideB p) p.length (fun i j => gridG p (p.length - 1 - j) i)) ((wideB p)) (p.length) (markF ((wideB p)) (p.length) (fun i j => gridG p (p.length - 1 - j) i)).length (renG ((wideB p)) (p.length) (fun i j => gridG p (p.length - 1 - j) i)) ao cap p w hl hs)
  have HM := Lib.hid (fun (hr : readOk p = true) (W : World) => by
    have hd := nameDraw_dims (show nameDraw p = true by unfold readOk at hr; rw [Bool.and_eq_true] at hr; exact hr.1)
    have := turn_any p.length (wideB p) (gridR p) (gridG p) W hd.2.1.2 hd.2.2.1.2 (fun i j => Nat.lt_of_le_of_lt (gridG_le (show nameDraw p = true by unfold readOk at hr; rw [Bool.and_eq_true] at hr; exact hr.1) i j) (by omega))
    rw [← readC_ok hr] at this
    exact this)
  rw [hT.1, hT.2]
  clear hT
  go_enter Try.func12, Try.ntmps12
  go_wp2_with (go_at_call 40; refine (HR.out _ hc Try.call41 (fun hr W _ => HM.out hr W) drawC_ok).mono ?_; rintro e w1 ⟨⟨ro, rc, rfl, hown1⟩, hb1⟩)
  go_ret2
  exact ⟨⟨ro, rc, rfl, hown1⟩, hb1⟩

theorem flip_math {p : List ByteArray} (h : planB p = true) : drawOk p.length (wideB p) (fun i j => gridG p i (wideB p - 1 - j)) = true ∧ namesB (flipB p) = rowsT p.length (wideB p) (renG p.length (wideB p) (fun i j => gridG p i (wideB p - 1 - j))) := by
  have hp := planP_of h
  have h1 := hp.grid.h1; have h6 := hp.grid.h6; have w1 := hp.grid.w1; have w6 := hp.grid.w6
  have he : ∀ i j, i < p.length → j < (wideB p) → (fun i j => markN p i (wideB p - 1 - j)) i j = (fun i j => gridG p i (wideB p - 1 - j)) i j := fun i j hi hj => hp.mark _ _ (by omega) (by omega)
  have hlt : ∀ i j, i < p.length → j < (wideB p) → (fun i j => markN p i (wideB p - 1 - j)) i j < gridR p := fun i j hi hj => hp.lt (by omega) (by omega)
  have hrect : RectG p.length (wideB p) (fun i j => markN p i (wideB p - 1 - j)) := hp.rect.pull (pull_id _) (pull_back _)
  have hd := drawOk_of (by omega) (by omega) (by omega) (by omega) hp.few hlt hrect
  have ht : flipB p = rowsT p.length (wideB p) (fun i j => markN p i (wideB p - 1 - j)) := mat_rows fun i j hi hj => hp.grid.letter (by omega) (by omega)
  refine ⟨by rw [← drawOk_congr he]; exact hd, ?_⟩
  rw [ht, names_rows (by omega) (by omega) (by omega) (by omega) (fun i j hi hj => Nat.lt_of_lt_of_le (hlt i j hi hj) (by have := hp.few; omega)), renG_congr he]

theorem trans_math {p : List ByteArray} (h : planB p = true) : drawOk (wideB p) p.length (fun i j => gridG p j i) = true ∧ namesB (transB p) = rowsT (wideB p) p.length (renG (wideB p) p.length (fun i j => gridG p j i)) := by
  have hp := planP_of h
  have h1 := hp.grid.h1; have h6 := hp.grid.h6; have w1 := hp.grid.w1; have w6 := hp.grid.w6
  have he : ∀ i j, i < (wideB p) → j < p.length → (fun i j => markN p j i) i j = (fun i j => gridG p j i) i j := fun i j hi hj => hp.mark _ _ (by omega) (by omega)
  have hlt : ∀ i j, i < (wideB p) → j < p.length → (fun i j => markN p j i) i j < gridR p := fun i j hi hj => hp.lt (by omega) (by omega)
  have hrect : RectG (wideB p) p.length (fun i j => markN p j i) := hp.rect.swap
  have hd := drawOk_of (by omega) (by omega) (by omega) (by omega) hp.few hlt hrect
  have ht : transB p = rowsT (wideB p) p.length (fun i j => markN p j i) := mat_rows fun i j hi hj => hp.grid.letter (by omega) (by omega)
  refine ⟨by rw [← drawOk_congr he]; exact hd, ?_⟩
  rw [ht, names_rows (by omega) (by omega) (by omega) (by omega) (fun i j hi hj => Nat.lt_of_lt_of_le (hlt i j hi hj) (by have := hp.few; omega)), renG_congr he]

end Go.Proofs.Ytpgcpmfemcfoaaa

/-
  Plain mathematics: texts written by their bytes, and what the model and the program make of them.
-/
namespace Go.Proofs.Ytpgcpmfemcfoaaa
open Go.RowKit

theorem matB_row {n m : Nat} {b : Nat → Nat → UInt8} {i : Nat} (hi : i < n) : (matB n m b).getD i ByteArray.empty = ⟨(rowM m b i).toArray⟩ := by
  unfold matB
  simp [hi]
theorem byteAt_mat {n m : Nat} {b : Nat → Nat → UInt8} {i j : Nat} (hi : i < n) (hj : j < m) : byteAt (matB n m b) i j = b i j := by
  unfold byteAt
  rw [matB_row hi]
  unfold rowM
  simp [hj]
theorem matB_wide {n m : Nat} {b : Nat → Nat → UInt8} (hn : 1 ≤ n) : wideB (matB n m b) = m := by
  unfold wideB
  rw [matB_row (by omega), ← size_list]
  exact rowM_len m b 0
theorem matB_even {n m : Nat} {b : Nat → Nat → UInt8} (hn : 1 ≤ n) : Even (matB n m b) := fun i hi => by
  rw [matB_len] at hi
  rw [matB_wide hn, matB_row hi, ← size_list]
  exact rowM_len m b i

theorem sameG_of_eq {h wd : Nat} {m m' : Nat → Nat → Nat} (he : ∀ i j, i < h → j < wd → m i j = m' i j) : SameG h wd m m' := fun i j i' j' a b c d => by
  rw [he i j a b, he i' j' c d]

/-! ### texts so often -/

end Go.Proofs.Ytpgcpmfemcfoaaa
