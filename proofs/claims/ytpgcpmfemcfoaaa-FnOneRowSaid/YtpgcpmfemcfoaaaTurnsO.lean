/-
  Merged texts: SpecE SpecF SpecG ImplI ImplJ TurnA MathG.
-/
import Derived.Test.YtpgcpmfemcfoaaaMathCEO

/-
  The model's answers on names and rooms. (Walks.)
-/
namespace Go.Proofs.Ytpgcpmfemcfoaaa
open Go.RowKit

end Go.Proofs.Ytpgcpmfemcfoaaa

/-
  The model's lists of texts turned, read backwards, with rows and columns exchanged. (Walks.)
-/
namespace Go.Proofs.Ytpgcpmfemcfoaaa
open Go.RowKit

/-- texts by their bytes -/
def rowM (m : Nat) (b : Nat → Nat → UInt8) (i : Nat) : List UInt8 := (List.range m).map (b i)
def matB (n m : Nat) (b : Nat → Nat → UInt8) : List ByteArray := (List.range n).map fun i => ⟨(rowM m b i).toArray⟩
theorem rowM_len (m : Nat) (b : Nat → Nat → UInt8) (i : Nat) : (rowM m b i).length = m := by simp [rowM]
theorem rowM_succ (m : Nat) (b : Nat → Nat → UInt8) (i : Nat) : rowM (m + 1) b i = rowM m b i ++ [b i m] := by simp [rowM, List.range_succ]
theorem matB_len (n m : Nat) (b : Nat → Nat → UInt8) : (matB n m b).length = n := by simp [matB]
theorem matB_succ (n m : Nat) (b : Nat → Nat → UInt8) : matB (n + 1) m b = matB n m b ++ [⟨(rowM m b n).toArray⟩] := by simp [matB, List.range_succ]
theorem byte_elem (c : UInt8) (l : List UInt8) : l.map byteV ++ [Value.int .u8 (c.toNat : Int)] = (l ++ [c]).map byteV := by simp [byteV]

def transB (p : List ByteArray) : List ByteArray := matB (wideB p) p.length (fun k i => byteAt p i k)

set_option maxHeartbeats 1000000 in
theorem l1Trans_any (ao : Option Addr) (cap n : Nat) (p : List ByteArray) (w : World) (hn : p.length = n) (h1 : 1 ≤ p.length) (hl : p.length ≤ 1048576) (hw : wideB p ≤ 1048576) (he : Even p)
    (hc : CellsAt w ao (p.map Value.string)) :
    Calls Try.prog 141 #[.slice ao n cap] w
      fun e w' => ∃ ro rc, e = .returned (.slice ro (wideB p) rc) ∧ w'.ownsRow w.heap.size 9 1 (.slice ro (wideB p) rc) (wideB p) ((transB p).map Value.string) ∧ Below w.heap.size w w' := by
  subst hn
  obtain ⟨ib, hbi, hbz, hb1, hb2⟩ := info_parts Try.infoByte
  obtain ⟨it, hti, htz, ht1, ht2⟩ := info_parts Try.infoText
  obtain ⟨b, hbd⟩ : ∃ b, b = (fun k i => byteAt p i k) := ⟨_, rfl⟩
  have hbe : ∀ k t, k < wideB p → t < p.length → b k t = byteAt p t k := fun k t hk ht => by subst hbd; rfl
  have HBE := Lib.hid hbe; clear hbe
  have hsz : ∀ i, i < p.length → (p.getD i ByteArray.empty).size = wideB p := he
  have HSZ := Lib.hid hsz; clear hsz he
  have HBD := Lib.hid hbd; clear hbd
  have HC := Lib.hid hc
  obtain ⟨b0, off0, ha0, hc0⟩ := hc.str 0 (by omega)
  subst ha0
  rw [Nat.add_zero] at hc0
  have hs0 : (p.getD 0 ByteArray.empty).size = wideB p := rfl
  generalize p.getD 0 ByteArray.empty = s0 at *
  have hp0 : 0 < p.length := h1
  clear hc
  go_enter Try.func141, Try.ntmps141
  go_wp2
  have hW1 := below_alloc w (.cells #[] 9)
  have hr1 : (w.alloc (.cells #[] 9)).ownsRow w.heap.size 9 1 (.slice (some ⟨w.heap.size, 0, none⟩) 0 0) 0 ((matB 0 (p.length) b).map Value.string) := World.ownsRow_made w #[] 0 (Nat.le_refl _) (Nat.zero_le _) rfl
  go_loopw [3, 4] (fun vo vk wr => ∃ (k : Nat) (ro : Option Addr) (rc : Nat), k ≤ wideB p ∧ vk = .int .i64 k ∧ vo = .slice ro k rc ∧ wr.ownsRow w.heap.size 9 1 (.slice ro k rc) k ((matB k (p.length) b).map Value.string) ∧ Below w.heap.size w wr) (fun _ k _ => wideB p - (intOf k).toNat)
  case atStart => exact ⟨0, _, _, Nat.zero_le _, rfl, rfl, hr1, hW1⟩
  case round =>
    clear hr1 hW1
    obtain ⟨k, ro, rc, hk, rfl, rfl, hrow, hb⟩ := hrel
    have hbs := hb.size
    have hc0r := cell_below hc0 hb
    by_cases hlt : k < wideB p
    · go_wp2
      go_loopw [5, 6] (fun vr vi wm => ∃ (t : Nat) (so : Option Addr) (sc : Nat), t ≤ p.length ∧ vi = .int .i64 (t : Int) ∧ vr = .slice so t sc ∧ wm.ownsRow w.heap.size 5 1 (.slice so t sc) t ((rowM t b k).map byteV) ∧
          wm.ownsRow w.heap.size 9 1 (.slice ro k rc) k ((matB k (p.length) b).map Value.string) ∧ Apart so ro ∧ Below w.heap.size w wm) (fun _ vi _ => p.length - (intOf vi).toNat)
      case atStart => exact ⟨0, _, 0, Nat.zero_le _, rfl, rfl, World.ownsRow_made wr #[] 0 hbs (Nat.zero_le _) rfl, hrow.alloc _, (Apart.fresh (fun a ha => (owns_lt hrow a ha).2) (Nat.le_refl _) 0 none).symm, hb.alloc hbs _⟩
      case round =>
        clear hrow hb hbs hc0r
        obtain ⟨t, so, sc, ht, rfl, rfl, hnam, hrow, hap, hb⟩ := hrel
        have hbs := hb.size
        by_cases htl : t < p.length
        · have hbv : b k t = byteAt p t k := by rw [HBE.out k t hlt htl]
          have hrl : t < p.length := by omega
          have hcl : k < wideB p := by omega
          obtain ⟨b2, off2, ha2, hc2⟩ := (HC.out.below hb).str t hrl
          simp only [Option.some.injEq, Addr.mk.injEq, and_true] at ha2
          obtain ⟨rfl, rfl⟩ := ha2
          have hcs : k < (p.getD t ByteArray.empty).size := by rw [HSZ.out t hrl]; omega
          have hidx := at_list (p.getD t ByteArray.empty) k hcs
          unfold byteAt at hbv
          have HBV := Lib.hid hbv; clear hbv
          have HRS := Lib.hid (rowM_succ t b k)
          have hb1' : t + 1 ≤ maxLen := by unfold maxLen; omega
          have hb2' : (t + 1) * 1 ≤ 140737488355328 := by omega
          have HEL := Lib.hid (byte_elem (b k t) (rowM t b k))
          generalize hgd : (p.getD t ByteArray.empty).data.toList.getD k 0 = c at *
          generalize p.getD t ByteArray.empty = s at *
          clear hgd
          go_wp2_with (at_builtin; refine wpList_push _ rfl (.tmp 23) (.tmp 30) 22 rfl w.heap.size 5 ib (.int .u8 0) 1 Try.underlying22 hbi hbz hb1 hb2 rfl so t sc _ rfl (hnam.alloc _) _ _ _ rfl (cell_new _ _ _) rfl hb1' hb2' (by simp; omega) ?_; intro so2 sc2 w2 hnam2 hg2 hnew2)
          have hlt3 := owns_lt hrow
          have hnm : (rowM t b k).map byteV ++ [Value.int .u8 (c.toNat : Int)] = (rowM (t + 1) b k).map byteV := by rw [HRS.out, ← HEL.out, HBV.out]
          have HNM := Lib.hid hnm; clear hnm
          go_roundw
          case rel => exact ⟨t + 1, so2, sc2, by omega, by go_num, rfl, owns_eq hnam2 HNM.out, owns_push_other hrow hg2 hap.symm, apart_push hap hnew2 (fun a ha => (hlt3 a ha).2), below_push hb hbs hg2 (fun a ha => (owns_lt hnam a ha).1)⟩
          case measure => first | (simp [intOf]; omega) | simp [intOf]
        · obtain rfl : t = p.length := by omega
          have HST := Lib.hid (matB_succ k (p.length) b)
          have hst : (matB k (p.length) b).map Value.string ++ [.string ⟨(rowM (p.length) b k).toArray⟩] = (matB (k + 1) (p.length) b).map Value.string := by rw [HST.out, List.map_append]; rfl
          have HSTT := Lib.hid hst; clear hst
          have hb1' : k + 1 ≤ maxLen := by unfold maxLen; omega
          have hb2' : (k + 1) * 16 ≤ 140737488355328 := by omega
          go_wp2_with (first
            | (at_builtin; refine wpList_push _ rfl (.tmp 32) (.tmp 35) 23 rfl w.heap.size 9 it (.string ⟨#[]⟩) 16 Try.underlying23 hti htz ht1 ht2 rfl ro k rc _ rfl (hrow.alloc _) _ _ _ rfl (cell_new _ _ _) rfl hb1' hb2' (by simp; omega) ?_; intro ro2 rc2 w2 hrow2 hg2 hnew2)
            | (refine wpList_str_of_bytes _ rfl 22 9 5 _ rfl Try.underlying22 Try.underlying5 Try.underlying9 so (p.length) sc rfl (rowM (p.length) b k) (rowM_len _ _ _) (owns_cells hnam) ?_))
          go_roundw
          case rel => exact ⟨k + 1, ro2, rc2, by omega, by go_num, rfl, owns_eq hrow2 HSTT.out, below_push hb hbs hg2 (fun a ha => (owns_lt hrow a ha).1)⟩
          case measure => simp [intOf]; omega
    · obtain rfl : k = wideB p := by omega
      rw [HBD.out] at hrow
      go_wp2
      go_ret
      exact ⟨_, _, rfl, hrow, hb⟩

end Go.Proofs.Ytpgcpmfemcfoaaa

/-
  The model writes rows so often, and leaves out rows. (Walks.)
-/
namespace Go.Proofs.Ytpgcpmfemcfoaaa
open Go.RowKit

end Go.Proofs.Ytpgcpmfemcfoaaa

/-
  The program's texts of plans that came out. (Walks.)
-/
namespace Go.Proofs.Ytpgcpmfemcfoaaa
open Go.RowKit

end Go.Proofs.Ytpgcpmfemcfoaaa

/-
  The program turns a plan, reads it backwards, exchanges its rows and columns. (Walks.)
-/
namespace Go.Proofs.Ytpgcpmfemcfoaaa
open Go.RowKit

end Go.Proofs.Ytpgcpmfemcfoaaa

/-
  Plans turned, read backwards, with rows and columns exchanged: the model's answers and the program's. (Walks, and the mathematics of it.)
-/
namespace Go.Proofs.Ytpgcpmfemcfoaaa
open Go.RowKit

theorem mat_rows {n m : Nat} {b : Nat → Nat → UInt8} {g : Nat → Nat → Nat} (he : ∀ i j, i < n → j < m → b i j = UInt8.ofNat (97 + g i j)) : matB n m b = rowsT n m g := by
  unfold matB rowsT
  refine List.map_congr_left fun i hi => ?_
  rw [List.mem_range] at hi
  congr 2
  unfold rowM rowT
  refine List.map_congr_left fun j hj => ?_
  rw [List.mem_range] at hj
  exact he i j hi hj

theorem GridP.letter {p : List ByteArray} (hp : GridP p) {i j : Nat} (hi : i < p.length) (hj : j < wideB p) : byteAt p i j = UInt8.ofNat (97 + markN p i j) := by
  have := (hp.byte hi hj).1
  rw [← this]
  simp

theorem drawOk_of {h wd R : Nat} {m : Nat → Nat → Nat} (h1 : 1 ≤ h) (h6 : h ≤ 6) (w1 : 1 ≤ wd) (w6 : wd ≤ 6) (hR : R ≤ 9) (hlt : ∀ i j, i < h → j < wd → m i j < R) (hr : RectG h wd m) : drawOk h wd m = true :=
  drawOk_iff.2 ⟨⟨h1, h6⟩, ⟨w1, w6⟩, Nat.le_trans (markF_few hlt) hR, hr⟩

theorem trans_math {p : List ByteArray} (h : planB p = true) : drawOk (wideB p) p.length (fun i j => gridG p j i) = true ∧ namesB (transB p) = rowsT (wideB p) p.length (renG (wideB p) p.length (fun i j => gridG p j i)) := by
  have hp := planP_of h
  have h1 := hp.grid.h1; have h6 := hp.grid.h6; have w1 := hp.grid.w1; have w6 := hp.grid.w6
  have he : ∀ i j, i < (wideB p) → j < p.length → (fun i j => markN p j i) i j = (fun i j => gridG p j i) i j := fun i j hi hj => hp.mark _ _ (by omega) (by omega)
  have hlt : ∀ i j, i < (wideB p) → j < p.length → (fun i j => markN p j i) i j < gridR p := fun i j hi hj => hp.lt (by omega) (by omega)
  have hrect : RectG (wideB p) p.length (fun i j => markN p j i) := hp.rect.swap
  have hd := drawOk_of (by omega) (by omega) (by omega) (by omega) hp.few hlt hrect
  have ht : transB p = rowsT (wideB p) p.length (fun i j => markN p j i) := mat_rows fun i j hi hj => hp.grid.letter (by omega) (by omega)
  refine ⟨by rw [← drawOk_congr he]; exact hd, ?_⟩
  rw [ht, names_rows (by omega) (by omega) (by omega) (by omega) (fun i j hi hj => Nat.lt_of_lt_of_le (hlt i j hi hj) (by have := hp.few; omega)), renG_congr he]

end Go.Proofs.Ytpgcpmfemcfoaaa

/-
  Plain mathematics: texts written by their bytes, and what the model and the program make of them.
-/
namespace Go.Proofs.Ytpgcpmfemcfoaaa
open Go.RowKit

theorem matB_row {n m : Nat} {b : Nat → Nat → UInt8} {i : Nat} (hi : i < n) : (matB n m b).getD i ByteArray.empty = ⟨(rowM m b i).toArray⟩ := by
  unfold matB
  simp [hi]
theorem byteAt_mat {n m : Nat} {b : Nat → Nat → UInt8} {i j : Nat} (hi : i < n) (hj : j < m) : byteAt (matB n m b) i j = b i j := by
  unfold byteAt
  rw [matB_row hi]
  unfold rowM
  simp [hj]
theorem matB_wide {n m : Nat} {b : Nat → Nat → UInt8} (hn : 1 ≤ n) : wideB (matB n m b) = m := by
  unfold wideB
  rw [matB_row (by omega), ← size_list]
  exact rowM_len m b 0
theorem matB_even {n m : Nat} {b : Nat → Nat → UInt8} (hn : 1 ≤ n) : Even (matB n m b) := fun i hi => by
  rw [matB_len] at hi
  rw [matB_wide hn, matB_row hi, ← size_list]
  exact rowM_len m b i

/-! ### texts so often -/

end Go.Proofs.Ytpgcpmfemcfoaaa
