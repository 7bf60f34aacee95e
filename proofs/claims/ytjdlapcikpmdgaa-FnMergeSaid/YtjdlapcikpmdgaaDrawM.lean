
/-
  Neighbours of a room in texts that may be no plan; the draw of a plan and two rooms. (Walks.)
-/
import Derived.Test.YtjdlapcikpmdgaaNears
import Derived.Test.YtjdlapcikpmdgaaDraw
import Derived.Deep.RegionWith

namespace Go.Proofs.Ytjdlapcikpmdgaa
open Go.RowKit

/-- rows at least as wide as the first -/
def Wds (p : List ByteArray) : Prop := ∀ i, i < p.length → wideB p ≤ (p.getD i ByteArray.empty).size

theorem roomsB_fewM (p : List ByteArray) : 0 ≤ roomsB p ∧ roomsB p ≤ 159 := by
  have hr : ∀ (i : Nat) (l : List UInt8) (k : Nat) (st : Int), 0 ≤ st ∧ st ≤ 159 → 0 ≤ rowFold roomsF i k l st ∧ rowFold roomsF i k l st ≤ 159 := by
    intro i l
    induction l with
    | nil => intro k st h; exact h
    | cons c t ih =>
      intro k st h
      rw [rowFold]
      refine ih _ _ ?_
      have := c.toNat_lt
      unfold roomsF
      split <;> omega
  have hg : ∀ (l : List ByteArray) (i : Nat) (st : Int), 0 ≤ st ∧ st ≤ 159 → 0 ≤ gridFold roomsF i l st ∧ gridFold roomsF i l st ≤ 159 := by
    intro l
    induction l with
    | nil => intro i st h; exact h
    | cons s t ih =>
      intro i st h
      rw [gridFold]
      exact ih _ _ (hr _ _ _ _ h)
  exact hg p 0 0 (by omega)

set_option maxHeartbeats 1000000 in
theorem l1TransW_any (ao : Option Addr) (cap n : Nat) (p : List ByteArray) (w : World) (hn : p.length = n) (h1 : 1 ≤ p.length) (hl : p.length ≤ 1048576) (hw : wideB p ≤ 1048576) (he : Wds p)
    (hc : CellsAt w ao (p.map Value.string)) :
    Calls Try.prog 34 #[.slice ao n cap] w
      fun e w' => ∃ ro rc, e = .returned (.slice ro (wideB p) rc) ∧ w'.ownsRow w.heap.size 9 1 (.slice ro (wideB p) rc) (wideB p) ((transB p).map Value.string) ∧ Below w.heap.size w w' := by
  subst hn
  obtain ⟨ib, hbi, hbz, hb1, hb2⟩ := info_parts Try.infoByte
  obtain ⟨it, hti, htz, ht1, ht2⟩ := info_parts Try.infoText
  obtain ⟨b, hbd⟩ : ∃ b, b = (fun k i => byteAt p i k) := ⟨_, rfl⟩
  have hbe : ∀ k t, k < wideB p → t < p.length → b k t = byteAt p t k := fun k t hk ht => by subst hbd; rfl
  have HBE := Lib.hid hbe; clear hbe
  have hsz : ∀ i, i < p.length → wideB p ≤ (p.getD i ByteArray.empty).size := he
  have HSZ := Lib.hid hsz; clear hsz he
  have HBD := Lib.hid hbd; clear hbd
  have HC := Lib.hid hc
  obtain ⟨b0, off0, ha0, hc0⟩ := hc.str 0 (by omega)
  subst ha0
  rw [Nat.add_zero] at hc0
  have hs0 : (p.getD 0 ByteArray.empty).size = wideB p := rfl
  generalize p.getD 0 ByteArray.empty = s0 at *
  have hp0 : 0 < p.length := h1
  clear hc
  go_enter Try.func34, Try.ntmps34
  go_wp2
  have hW1 := below_alloc w (.cells #[] 9)
  have hr1 : (w.alloc (.cells #[] 9)).ownsRow w.heap.size 9 1 (.slice (some ⟨w.heap.size, 0, none⟩) 0 0) 0 ((matB 0 (p.length) b).map Value.string) := World.ownsRow_made w #[] 0 (Nat.le_refl _) (Nat.zero_le _) rfl
  go_loopw [3, 4] (fun vo vk wr => ∃ (k : Nat) (ro : Option Addr) (rc : Nat), k ≤ wideB p ∧ vk = .int .i64 k ∧ vo = .slice ro k rc ∧ wr.ownsRow w.heap.size 9 1 (.slice ro k rc) k ((matB k (p.length) b).map Value.string) ∧ Below w.heap.size w wr) (fun _ k _ => wideB p - (intOf k).toNat)
  case atStart => exact ⟨0, _, _, Nat.zero_le _, rfl, rfl, hr1, hW1⟩
  case round =>
    clear hr1 hW1
    obtain ⟨k, ro, rc, hk, rfl, rfl, hrow, hb⟩ := hrel
    have hbs := hb.size
    have hc0r := cell_below hc0 hb
    by_cases hlt : k < wideB p
    · go_wp2
      go_loopw [5, 6] (fun vr vi wm => ∃ (t : Nat) (so : Option Addr) (sc : Nat), t ≤ p.length ∧ vi = .int .i64 (t : Int) ∧ vr = .slice so t sc ∧ wm.ownsRow w.heap.size 5 1 (.slice so t sc) t ((rowM t b k).map byteV) ∧
          wm.ownsRow w.heap.size 9 1 (.slice ro k rc) k ((matB k (p.length) b).map Value.string) ∧ Apart so ro ∧ Below w.heap.size w wm) (fun _ vi _ => p.length - (intOf vi).toNat)
      case atStart => exact ⟨0, _, 0, Nat.zero_le _, rfl, rfl, World.ownsRow_made wr #[] 0 hbs (Nat.zero_le _) rfl, hrow.alloc _, (Apart.fresh (fun a ha => (owns_lt hrow a ha).2) (Nat.le_refl _) 0 none).symm, hb.alloc hbs _⟩
      case round =>
        clear hrow hb hbs hc0r
        obtain ⟨t, so, sc, ht, rfl, rfl, hnam, hrow, hap, hb⟩ := hrel
        have hbs := hb.size
        by_cases htl : t < p.length
        · have hbv : b k t = byteAt p t k := by rw [HBE.out k t hlt htl]
          have hrl : t < p.length := by omega
          have hcl : k < wideB p := by omega
          obtain ⟨b2, off2, ha2, hc2⟩ := (HC.out.below hb).str t hrl
          simp only [Option.some.injEq, Addr.mk.injEq, and_true] at ha2
          obtain ⟨rfl, rfl⟩ := ha2
          have hcs : k < (p.getD t ByteArray.empty).size := by have := HSZ.out t hrl; omega
          have hidx := at_list (p.getD t ByteArray.empty) k hcs
          unfold byteAt at hbv
          have HBV := Lib.hid hbv; clear hbv
          have HRS := Lib.hid (rowM_succ t b k)
          have hb1' : t + 1 ≤ maxLen := by unfold maxLen; omega
          have hb2' : (t + 1) * 1 ≤ 140737488355328 := by omega
          have HEL := Lib.hid (byte_elem (b k t) (rowM t b k))
          generalize hgd : (p.getD t ByteArray.empty).data.toList.getD k 0 = c at *
          generalize p.getD t ByteArray.empty = s at *
          clear hgd
          go_wp2_with (at_builtin; refine wpList_push _ rfl (.tmp 23) (.tmp 30) 22 rfl w.heap.size 5 ib (.int .u8 0) 1 Try.underlying22 hbi hbz hb1 hb2 rfl so t sc _ rfl (hnam.alloc _) _ _ _ rfl (cell_new _ _ _) rfl hb1' hb2' (by simp; omega) ?_; intro so2 sc2 w2 hnam2 hg2 hnew2)
          have hlt3 := owns_lt hrow
          have hnm : (rowM t b k).map byteV ++ [Value.int .u8 (c.toNat : Int)] = (rowM (t + 1) b k).map byteV := by rw [HRS.out, ← HEL.out, HBV.out]
          have HNM := Lib.hid hnm; clear hnm
          go_roundw
          case rel => exact ⟨t + 1, so2, sc2, by omega, by go_num, rfl, owns_eq hnam2 HNM.out, owns_push_other hrow hg2 hap.symm, apart_push hap hnew2 (fun a ha => (hlt3 a ha).2), below_push hb hbs hg2 (fun a ha => (owns_lt hnam a ha).1)⟩
          case measure => first | (simp [intOf]; omega) | simp [intOf]
        · obtain rfl : t = p.length := by omega
          have HST := Lib.hid (matB_succ k (p.length) b)
          have hst : (matB k (p.length) b).map Value.string ++ [.string ⟨(rowM (p.length) b k).toArray⟩] = (matB (k + 1) (p.length) b).map Value.string := by rw [HST.out, List.map_append]; rfl
          have HSTT := Lib.hid hst; clear hst
          have hb1' : k + 1 ≤ maxLen := by unfold maxLen; omega
          have hb2' : (k + 1) * 16 ≤ 140737488355328 := by omega
          go_wp2_with (first
            | (at_builtin; refine wpList_push _ rfl (.tmp 32) (.tmp 35) 23 rfl w.heap.size 9 it (.string ⟨#[]⟩) 16 Try.underlying23 hti htz ht1 ht2 rfl ro k rc _ rfl (hrow.alloc _) _ _ _ rfl (cell_new _ _ _) rfl hb1' hb2' (by simp; omega) ?_; intro ro2 rc2 w2 hrow2 hg2 hnew2)
            | (refine wpList_str_of_bytes _ rfl 22 9 5 _ rfl Try.underlying22 Try.underlying5 Try.underlying9 so (p.length) sc rfl (rowM (p.length) b k) (rowM_len _ _ _) (owns_cells hnam) ?_))
          go_roundw
          case rel => exact ⟨k + 1, ro2, rc2, by omega, by go_num, rfl, owns_eq hrow2 HSTT.out, below_push hb hbs hg2 (fun a ha => (owns_lt hrow a ha).1)⟩
          case measure => simp [intOf]; omega
    · obtain rfl : k = wideB p := by omega
      rw [HBD.out] at hrow
      go_wp2
      go_ret
      exact ⟨_, _, rfl, hrow, hb⟩


def lenW (p : List ByteArray) (a b : Int) (h : Nat) : Nat := sumN h fun i => rowL p a b i ((p.getD i ByteArray.empty).size - 1)
theorem lenW_succ (p : List ByteArray) (a b : Int) (h : Nat) : lenW p a b (h + 1) = lenW p a b h + rowL p a b h ((p.getD h ByteArray.empty).size - 1) := rfl
theorem lenW_le (p : List ByteArray) (a b : Int) (h : Nat) (hw : ∀ i, i < h → (p.getD i ByteArray.empty).size ≤ 9) : lenW p a b h ≤ h * 8 := by
  induction h with
  | zero => exact Nat.le_refl _
  | succ h ih => rw [lenW_succ]; have := rowL_le p a b h ((p.getD h ByteArray.empty).size - 1); have := ih fun i hi => hw i (by omega); have := hw h (by omega); omega

set_option maxRecDepth 100000 in
set_option maxHeartbeats 4000000 in
theorem l4LengthW_any (ao : Option Addr) (cap n : Nat) (p : List ByteArray) (a b : Int) (w : World) (hn : p.length = n) (hl : p.length ≤ 9) (he : ∀ i, i < p.length → (p.getD i ByteArray.empty).size ≤ 9) (hc : CellsAt w ao (p.map Value.string)) :
    Calls Try.prog 53 #[.slice ao n cap, .int .i64 a, .int .i64 b] w
      fun e w' => e = .returned (.int .i64 (lenW p a b p.length : Nat)) ∧ w' = w := by
  subst hn
  have HC := Lib.hid hc
  have HE := Lib.hid he
  have HLS := Lib.hid (fun h => lenW_succ p a b h)
  have HLL := Lib.hid (fun h (hh : h ≤ p.length) => lenW_le p a b h fun i hi => he i (by omega))
  have HRS := Lib.hid (fun i t => rowL_succ p a b i t)
  have HRL := Lib.hid (fun i t => rowL_le p a b i t)
  have HLZ := Lib.hid (show lenW p a b 0 = 0 from rfl)
  have HRZ := Lib.hid (fun i => show rowL p a b i 0 = 0 from rfl)
  have HHI := Lib.hid (fun i k => show hitL p a b i k = (((((byteAt p i (k - 1)).toNat : Int) - 97 == a) && (((byteAt p i k).toNat : Int) - 97 == b)) || ((((byteAt p i (k - 1)).toNat : Int) - 97 == b) && (((byteAt p i k).toNat : Int) - 97 == a))) from rfl)
  unfold byteAt at HHI
  generalize hLF : lenW p a b = LF at *
  generalize hRF : rowL p a b = RF at *
  generalize hHF : hitL p a b = HF at *
  clear hc he hLF hRF hHF
  go_enter Try.func53, Try.ntmps53
  go_wp2
  go_loopw [7, 8] (fun vn vi wr => ∃ i : Nat, i ≤ p.length ∧ vi = .int .i64 i ∧ vn = .int .i64 (LF i : Nat) ∧ wr = w) (fun _ vi _ => p.length - (intOf vi).toNat)
  case atStart => exact ⟨0, Nat.zero_le _, rfl, by rw [HLZ.out]; rfl, rfl⟩
  case round =>
    obtain ⟨i, hi, rfl, rfl, rfl⟩ := hrel
    by_cases hlt : i < p.length
    · have hlt' : decide ((i : Int) < (p.length : Int)) = true := by rw [decide_eq_true_eq]; omega
      obtain ⟨bb, off, rfl, hck⟩ := HC.out.str i hlt
      have hsz := HE.out i hlt
      have HLS2 := Lib.hid (HLS.out i)
      have hA := HLL.out i hi
      have HH := Lib.hid (fun k => HHI.out i k)
      generalize p.getD i ByteArray.empty = s at *
      generalize LF i = A at *
      have HA0 := Lib.hid (show A = A + RF i 0 by rw [HRZ.out, Nat.add_zero])
      go_wp2
      go_loopw [7, 9] (fun vn vk wm => ∃ t : Nat, t ≤ s.size - 1 ∧ vk = .int .i64 (t + 1 : Nat) ∧ vn = .int .i64 (A + RF i t : Nat) ∧ wm = wr) (fun _ vk _ => s.size - (intOf vk).toNat)
      case atStart => exact ⟨0, Nat.zero_le _, rfl, by rw [← HA0.out], rfl⟩
      case round =>
        obtain ⟨t, ht, rfl, rfl, rfl⟩ := hrel
        by_cases hkl : t + 1 < s.size
        · have hkl' : decide (((t + 1 : Nat) : Int) < (s.size : Int)) = true := by rw [decide_eq_true_eq]; omega
          have x1 := at_list s (t + 1) hkl
          have x0 := at_list s t (by omega)
          have hk1 : ((t + 1 : Nat) : Int) - 1 = (t : Int) := by omega
          have htl : t < s.size := by omega
          have HX := Lib.hid (HH.out (t + 1))
          have HU := Lib.hid (HRS.out i t)
          rw [Nat.add_sub_cancel] at HX
          have hR := HRL.out i t
          generalize RF i t = B at *
          generalize HF i (t + 1) = F at *
          generalize s.data.toList.getD (t + 1) 0 = c1 at *
          generalize s.data.toList.getD t 0 = c0 at *
          have hc0 := UInt8.toNat_lt c0
          have hc1 := UInt8.toNat_lt c1
          clear HH HE HLS HLL HLZ HRS HRL HRZ HHI HC
          cases h1 : (((c0.toNat : Int) - 97) == a) <;> cases h2 : (((c1.toNat : Int) - 97) == b) <;> cases h3 : (((c0.toNat : Int) - 97) == b) <;> cases h4 : (((c1.toNat : Int) - 97) == a) <;>
            (have HF2 := HX.out
             rw [h1, h2, h3, h4] at HF2
             simp only [Bool.and_true, Bool.and_false, Bool.or_true, Bool.or_false] at HF2
             have HV := HU.out
             rw [HF2] at HV
             simp only [if_true, if_false, Bool.false_eq_true, Nat.add_zero] at HV
             have HW := Lib.hid HV
             clear HV HF2 HX HU
             go_wp2
             go_roundw
             case rel => exact ⟨t + 1, by omega, by go_num, by (rw [HW.out]; try go_num), by first | rfl | trivial⟩
             case measure => simp [intOf]; omega)
        · have hkl' : decide (((t + 1 : Nat) : Int) < (s.size : Int)) = false := by rw [decide_eq_false_iff_not]; omega
          obtain rfl : t = s.size - 1 := by omega
          have HW := Lib.hid (show LF (i + 1) = A + RF i (s.size - 1) from HLS2.out)
          generalize RF i (s.size - 1) = B at *
          go_wp2
          go_roundw
          case rel => exact ⟨i + 1, by omega, by go_num, by rw [HW.out], by first | rfl | trivial⟩
          case measure => simp [intOf]; omega
    · have hlt' : decide ((i : Int) < (p.length : Int)) = false := by rw [decide_eq_false_iff_not]; omega
      obtain rfl : i = p.length := by omega
      go_wp2
      go_ret
      exact ⟨rfl, rfl⟩


/-- cells both ways -/
def besW (p : List ByteArray) (a b : Int) : Nat := if a = b then 0 else lenW p a b p.length + lenW (transB p) a b (wideB p)
/-- a list as it is drawn for merging -/
structure Wsm (p : List ByteArray) : Prop where
  h1 : 1 ≤ p.length
  h8 : p.length ≤ 8
  w9 : ∀ i, i < p.length → (p.getD i ByteArray.empty).size ≤ 9
  wd : Wds p
theorem Wsm.wide {p : List ByteArray} (h : Wsm p) : wideB p ≤ 9 := h.w9 0 h.h1
theorem transB_sz (p : List ByteArray) (i : Nat) (hi : i < (transB p).length) : ((transB p).getD i ByteArray.empty).size = p.length := by
  rw [List.getD_eq_getElem?_getD, List.getElem?_eq_getElem hi, Option.getD_some]
  exact matB_size _ (List.getElem_mem hi)
theorem Wsm.tr {p : List ByteArray} (h : Wsm p) (i : Nat) (hi : i < (transB p).length) : ((transB p).getD i ByteArray.empty).size ≤ 9 := by rw [transB_sz p i hi]; have := h.h8; omega
theorem besW_le {p : List ByteArray} (hp : Wsm p) (a b : Int) : besW p a b ≤ 144 := by
  have h1 := lenW_le p a b p.length hp.w9
  have h2 := lenW_le (transB p) a b (wideB p) fun i hi => hp.tr i (by rw [transB_len]; exact hi)
  have := hp.h8; have := hp.wide
  unfold besW
  split <;> omega

set_option maxRecDepth 100000 in
theorem l4BesideW_any (ao : Option Addr) (cap n : Nat) (p : List ByteArray) (a b : Int) (w : World) (hn : p.length = n) (hp : Wsm p) (hc : CellsAt w ao (p.map Value.string)) :
    Calls Try.prog 37 #[.slice ao n cap, .int .i64 a, .int .i64 b] w
      fun e w' => e = .returned (.int .i64 (besW p a b : Nat)) ∧ Below w.heap.size w w' := by
  subst hn
  have hle := besW_le hp a b
  by_cases hab : a = b
  · have h1 : (a == b) = true := by rw [beq_iff_eq]; exact hab
    have h0 : besW p a b = 0 := if_pos hab
    rw [h0]
    clear hle h0 hab
    go_enter Try.func37, Try.ntmps37
    go_wp2
    go_ret
    exact ⟨rfl, Below.refl _ _⟩
  · have h1 : (a == b) = false := by rw [beq_eq_false_iff_ne]; exact hab
    have h0 : besW p a b = lenW p a b p.length + lenW (transB p) a b (wideB p) := if_neg hab
    have HL := Lib.hid (fun w (c : CellsAt w ao (p.map Value.string)) => l4LengthW_any ao cap _ p a b w rfl (by have := hp.h8; omega) hp.w9 c)
    have HT := Lib.hid (fun w (c : CellsAt w ao (p.map Value.string)) => l1TransW_any ao cap _ p w rfl hp.h1 (by have := hp.h8; omega) (by have := hp.wide; omega) hp.wd c)
    have HM := Lib.hid (fun ro rc w (c : CellsAt w ro ((transB p).map Value.string)) => l4LengthW_any ro rc (wideB p) (transB p) a b w (transB_len p) (by rw [transB_len]; exact hp.wide) hp.tr c)
    rw [transB_len] at HM
    have hs : lenW p a b p.length + lenW (transB p) a b (wideB p) ≤ 144 := by rw [← h0]; exact hle
    rw [h0]
    clear hle h0 hab
    generalize lenW p a b p.length = A at *
    generalize lenW (transB p) a b (wideB p) = B at *
    go_enter Try.func37, Try.ntmps37
    go_wp2_with fail
    refine (HL.out _ hc).mono ?_
    rintro e w1 ⟨rfl, rfl⟩
    go_wp2_with fail
    refine (HT.out _ hc).mono ?_
    rintro e w2 ⟨ro, rc, rfl, ow, hb⟩
    have c2 := owns_cells ow
    clear ow
    go_wp2_with fail
    refine (HM.out _ _ _ c2).mono ?_
    rintro e w3 ⟨rfl, rfl⟩
    go_wp2
    go_ret
    exact ⟨ret_int (by omega), hb⟩


def ofW (p : List ByteArray) (a : Int) (n : Nat) : List Int := ((List.range n).filter fun (b : Nat) => decide (0 < besW p a (b : Int))).map fun (b : Nat) => (b : Int)
theorem ofW_yes {p : List ByteArray} {a : Int} {n : Nat} (h : 0 < besW p a (n : Int)) : ofW p a (n + 1) = ofW p a n ++ [(n : Int)] := by
  unfold ofW
  rw [List.range_succ, List.filter_append, List.map_append, List.filter_cons, decide_eq_true h, List.filter_nil]
  rfl
theorem ofW_no {p : List ByteArray} {a : Int} {n : Nat} (h : ¬ 0 < besW p a (n : Int)) : ofW p a (n + 1) = ofW p a n := by
  unfold ofW
  rw [List.range_succ, List.filter_append, List.map_append, List.filter_cons, decide_eq_false h, List.filter_nil]
  simp
theorem ofW_le (p : List ByteArray) (a : Int) (n : Nat) : (ofW p a n).length ≤ n := by
  unfold ofW
  rw [List.length_map]
  exact Nat.le_trans (List.length_filter_le _ _) (by simp)


set_option maxRecDepth 100000 in
set_option maxHeartbeats 2000000 in
theorem l4OfW_any (ao : Option Addr) (cap : Nat) (p : List ByteArray) (a : Int) (w : World) (hg : Wsm p) (n : Nat) (hR : roomsB p = (n : Int)) (hR9 : n ≤ 159) (hl : p.length ≤ 1048576) (hs : ∀ s ∈ p, s.size ≤ 1048576) (hc : CellsAt w ao (p.map Value.string)) :
    Calls Try.prog 19 #[.slice ao p.length cap, .int .i64 a] w
      fun e w' => ∃ ro rc, e = .returned (.slice ro (ofW p a (n)).length rc) ∧ w'.ownsRow w.heap.size 3 1 (.slice ro (ofW p a (n)).length rc) (ofW p a (n)).length ((ofW p a (n)).map (Value.int .i64)) ∧ Below w.heap.size w w' := by
  obtain ⟨it, hti, htz, ht1, ht2⟩ := info_parts Try.infoNum
  have hb0 := below_alloc w (.cells #[] 3)
  have hr0 : (w.alloc (.cells #[] 3)).ownsRow w.heap.size 3 1 (.slice (some ⟨w.heap.size, 0, none⟩) 0 0) 0 ((ofW p a 0).map (Value.int .i64)) := World.ownsRow_made w #[] 0 (Nat.le_refl _) (Nat.zero_le _) rfl
  have HR := Lib.hid (fun w c => l1Rooms_any ao cap p w hl hs c)
  rw [hR] at HR
  have HB := Lib.hid (fun (b : Nat) w c => l4BesideW_any ao cap _ p a b w rfl hg c)
  clear hg hR
  go_enter Try.func19, Try.ntmps19
  go_wp2
  go_loopw [5, 6] (fun vo vi wr => ∃ (i : Nat) (ro : Option Addr) (rc : Nat), i ≤ n ∧ vi = .int .i64 i ∧ vo = .slice ro (ofW p a i).length rc ∧ wr.ownsRow w.heap.size 3 1 (.slice ro (ofW p a i).length rc) (ofW p a i).length ((ofW p a i).map (Value.int .i64)) ∧ Below w.heap.size w wr) (fun _ vi _ => n - (intOf vi).toNat)
  case atStart => exact ⟨0, _, _, Nat.zero_le _, rfl, rfl, hr0, hb0⟩
  case round =>
    clear hr0 hb0
    obtain ⟨i, ro, rc, hi, rfl, rfl, hrow, hb⟩ := hrel
    have hcr := hc.below hb
    have hbs := hb.size
    go_wp2_with fail
    refine (HR.out _ hcr).mono ?_
    rintro e w2 ⟨rfl, rfl⟩
    by_cases hlt : i < n
    · have hlt' : decide ((i : Int) < (n : Int)) = true := by rw [decide_eq_true_eq]; omega
      have hle := ofW_le p a i
      go_wp2_with fail
      refine (HB.out i _ hcr).mono ?_
      rintro e w3 ⟨rfl, hb3⟩
      have hrow3 := ownsRow_below hrow hb3
      have hb4 := below_step hb hb.size hb3
      have hbs4 := hb4.size
      by_cases hn : 0 < besW p a (i : Int)
      · have HSU := Lib.hid (ofW_yes hn)
        have hn' : decide ((0 : Int) < (besW p a (i : Int) : Int)) = true := by rw [decide_eq_true_eq]; omega
        generalize besW p a (i : Int) = B at *
        generalize ofW p a i = L at *
        have hb1' : L.length + 1 ≤ maxLen := by unfold maxLen; omega
        have hb2' : (L.length + 1) * 8 ≤ 140737488355328 := by omega
        clear hle
        go_wp2_with (at_builtin; refine wpList_push _ rfl (.tmp 19) (.tmp 21) 35 rfl w.heap.size 3 it (.int .i64 0) 8 Try.underlying35 hti htz ht1 ht2 rfl ro L.length rc _ rfl (hrow3.alloc _) _ _ _ rfl (cell_new _ _ _) rfl hb1' hb2' (by simp; omega) ?_; intro ro2 rc2 w4 hrow2 hg2 hnew2)
        have hlen : (ofW p a (i + 1)).length = L.length + 1 := by rw [HSU.out, List.length_append]; rfl
        have HLN := Lib.hid hlen
        clear hlen
        go_roundw
        case rel => exact ⟨i + 1, ro2, rc2, by omega, by go_num, by rw [HLN.out], by rw [HLN.out, HSU.out, List.map_append]; exact hrow2, below_push hb4 hbs4 hg2 (fun a ha => (owns_lt hrow3 a ha).1)⟩
        case measure => simp [intOf]; omega
      · have HSU := Lib.hid (ofW_no hn)
        have hn' : decide ((0 : Int) < (besW p a (i : Int) : Int)) = false := by rw [decide_eq_false_iff_not]; omega
        generalize besW p a (i : Int) = B at *
        go_wp2
        go_roundw
        case rel => exact ⟨i + 1, ro, rc, by omega, by go_num, by rw [HSU.out], by rw [HSU.out]; exact hrow3, hb4⟩
        case measure => simp [intOf]; omega
    · obtain rfl : i = n := by omega
      have hlt' : decide ((i : Int) < (i : Int)) = false := by rw [decide_eq_false_iff_not]; omega
      go_wp2
      go_ret
      exact ⟨_, _, rfl, hrow, hb⟩


theorem getD_mem' {l : List ByteArray} {i : Nat} (hi : i < l.length) : l.getD i ByteArray.empty ∈ l := by
  rw [List.getD_eq_getElem?_getD, List.getElem?_eq_getElem hi, Option.getD_some]
  exact List.getElem_mem hi
theorem wds_all {l : List ByteArray} {m : Nat} (h : ∀ s ∈ l, s.size = m) : Wds l := fun i hi => by
  unfold wideB
  rw [h _ (getD_mem' hi), h _ (getD_mem' (l := l) (i := 0) (by omega))]
  exact Nat.le_refl _
theorem wds_same {l : List ByteArray} {m i : Nat} {s : ByteArray} (h : ∀ s ∈ l, s.size = m) (hs : s.size = m) : Wds (l.set i s) :=
  wds_all (m := m) fun x hx => by
    rcases List.mem_or_eq_of_mem_set hx with h1 | h1
    · exact h x h1
    · rw [h1]; exact hs
theorem wds_last {l : List ByteArray} {m i : Nat} {s : ByteArray} (h : ∀ s ∈ l, s.size = m) (hi : i + 1 = l.length) (hs : m ≤ s.size) : Wds (l.set i s) := fun j hj => by
  rw [List.length_set] at hj
  unfold wideB
  by_cases hj2 : j = i
  · subst hj2
    by_cases h0 : j = 0
    · subst h0; exact Nat.le_refl _
    · rw [List.getD_eq_getElem?_getD, List.getElem?_set_ne (by omega), ← List.getD_eq_getElem?_getD, h _ (getD_mem' (l := l) (i := 0) (by omega)), List.getD_eq_getElem?_getD, List.getElem?_set_self (by omega)]
      exact hs
  · rw [List.getD_eq_getElem?_getD (i := j), List.getElem?_set_ne (by omega), ← List.getD_eq_getElem?_getD, h _ (getD_mem' (by omega)), List.getD_eq_getElem?_getD, List.getElem?_set_ne (by omega), ← List.getD_eq_getElem?_getD, h _ (getD_mem' (l := l) (i := 0) (by omega))]
    exact Nat.le_refl _

theorem some_doneW {w w4 w5 : World} {M B g i lc : Nat} {t : TypeId} {cur : Array Value} {l : List ByteArray} {s : ByteArray} (hr : RdAt M B w4) (hg : w.grownBy w4 (some B)) (hb : Below w4.heap.size w4 w5) (hgb : w4.heap.size ≤ g) (hH : HeldB w5 g t cur)
    (hc : ∀ j, j < 0 + l.length → cur[j]? = (([] : List Value) ++ l.map Value.string)[j]?) (hl : Smp l) (hs : s.size ≤ 9) (hw : Wds (l.set i s)) :
    ∃ ro rc l', (Smp l' ∧ Wds l') ∧ Ending.returned (.slice (some ⟨g, 0, none⟩) l.length lc) = .returned (.slice ro l'.length rc) ∧ ListAt B (w5.setCell ⟨g, i, none⟩ (.string s)) ro l' ∧ RdAt M B (w5.setCell ⟨g, i, none⟩ (.string s)) ∧ w.grownBy (w5.setCell ⟨g, i, none⟩ (.string s)) (some B) := by
  have hb2 : Below w4.heap.size w4 (w5.setCell ⟨g, i, none⟩ (.string s)) := hb.setCell hgb _
  refine ⟨some ⟨g, 0, none⟩, lc, l.set i s, ⟨smp_set hl hs, hw⟩, by rw [List.length_set], ⟨?_, fun a ha => ?_⟩, hr.below hb2, grownBy_b hg hb2⟩
  · rw [← map_set_str]
    exact cells_set (n := l.length) hH (fun j hj => by have := hc j (by omega); rwa [List.nil_append] at this) (by rw [List.length_map]) _
  · cases ha; have := hr.lt; simp; omega

set_option maxRecDepth 100000 in
set_option maxHeartbeats 4000000 in
theorem l91SomeW_any (N B rows cols : Nat) (w : World) (hN : N ≤ 30000) (hn : rows ≤ 7) (hm : cols ≤ 7) (h : RdAt N B w) :
    Calls Try.prog 16 #[.pointer (some ⟨B, 0, none⟩), .int .i64 (rows : Nat), .int .i64 (cols : Nat)] w
      fun e w' => ∃ ro rc l, (Smp l ∧ Wds l) ∧ e = .returned (.slice ro l.length rc) ∧ ListAt B w' ro l ∧ RdAt (N + 60) B w' ∧ w.grownBy w' (some B) := by
  obtain ⟨it, hti, htz, ht1, ht2⟩ := info_parts Try.infoText
  have HR := Lib.hid h; clear h
  go_enter Try.func16, Try.ntmps16
  go_wp2_with (first
    | (go_at_call 36; rw [E1.out, E2.out]; refine (l91Plan_any (N + 2) B (1 + v1) (1 + v2) _ (by omega) (by omega) (by omega) HR2.out).mono ?_; rintro e w3 ⟨ro, rc, l, hsh, rfl, hl3, hr3, hg3⟩; have HR3 := Lib.hid hr3; have HL3 := Lib.hid hl3; have HG3 := Lib.hid (grownBy_trans HG2.out hg3); have HS3 := Lib.hid hsh; clear hr3 hl3 hg3 hsh)
    | (go_at_call 17; refine (pick_any (N + 2 + 40) B 50 _ (by omega) HR3.out).mono ?_; rintro e w4 ⟨v4, rfl, hv4, hr4, hg4⟩; have HR4 := Lib.hid hr4; have HL4 := Lib.hid (HL3.out.grown hg4); have HG4 := Lib.hid (grownBy_trans HG3.out hg4); clear hr4 hg4; have h0l : 0 < l.length := (by have := HS3.out.1; omega); have hvl : v1 < l.length := (by have := HS3.out.1; omega); have hl8 : l.length ≤ 8 := (by have := HS3.out.1; omega); obtain ⟨b, off, rfl, _⟩ := HL4.out.1.str 0 h0l; have HCE := Lib.hid (cells_flat (HL4.out.1.below (below_alloc w4 (.cells #[] 9)))))
    | (at_builtin; (refine wpList_pushK _ rfl _ _ 23 rfl w4.heap.size 9 it (.string ⟨#[]⟩) 1 16 Try.underlying23 hti htz ht1 ht2 rfl (by decide) (some ⟨w4.heap.size, 0, none⟩) 0 0 _ rfl (World.ownsRow_made w4 #[] 0 (Nat.le_refl _) (Nat.zero_le _) rfl) (l.map Value.string) l.length b off rc rfl h0l (by simp) HCE.out (strs_one l) (by unfold maxLen; omega) (by omega) (by simp) ?_); intro lo lc w5 hown5 hg5 hnew5; obtain ⟨g, cur, rfl, hgb, hH, hcur⟩ := open_row hown5 (by omega); have HB5 := Lib.hid (below_of_grownBy' (below_alloc w4 _) hg5 (fun a ha => by cases ha; exact Nat.le_refl _)); have HCU := Lib.hid hcur; have HH := Lib.hid hH; have kv := strs_cell hH hcur v1 hvl; have k0 := strs_cell hH hcur 0 h0l; have fv := hH.frozen v1; have f0 := hH.frozen 0; have hz1 : (l[v1]'hvl).size = 1 + v2 := HS3.out.2 _ (List.getElem_mem hvl); have hz0 : (l[0]'h0l).size = 1 + v2 := HS3.out.2 _ (List.getElem_mem h0l); have hc1 : (9223372036854775807 < (l[v1]'hvl).size + 1) = False := eq_false (by omega); have hc0 : 1 ≤ (l[0]'h0l).size := (by omega); clear hown5 hg5 hnew5 hcur hH)
    | (go_at_call 17; refine (pick_any (N + 1) B _ _ (by omega) HR1.out).mono ?_; rintro e w2 ⟨v2, rfl, hv2, hr2, hg2⟩; have HR2 := Lib.hid hr2; have HG2 := Lib.hid (grownBy_trans HG1.out hg2); have E2 := Lib.hid (show (1 : Int) + (v2 : Nat) = ((1 + v2 : Nat) : Int) by omega); clear hr2 hg2)
    | (go_at_call 17; refine (pick_any N B _ _ (by omega) HR.out).mono ?_; rintro e w1 ⟨v1, rfl, hv1, hr1, hg1⟩; have HR1 := Lib.hid hr1; have HG1 := Lib.hid hg1; have E1 := Lib.hid (show (1 : Int) + (v1 : Nat) = ((1 + v1 : Nat) : Int) by omega); clear hr1 hg1))
  all_goals go_ret
  all_goals have HSM : Smp l := ⟨h0l, hl8, fun s hs => by have := HS3.out.2 s hs; omega⟩
  all_goals first
    | exact ⟨_, rc, l, ⟨HSM, wds_all HS3.out.2⟩, rfl, HL4.out, HR4.out.mono (by omega), HG4.out⟩
    | exact some_doneW (HR4.out.mono (by omega)) HG4.out HB5.out hgb HH.out HCU.out HSM (by rw [app_size]; show _ + 1 ≤ 9; omega) (wds_last HS3.out.2 (by have := HS3.out.1; omega) (by rw [app_size]; omega))
    | exact some_doneW (HR4.out.mono (by omega)) HG4.out HB5.out hgb HH.out HCU.out HSM (by rw [app_size]; show 1 + _ ≤ 9; rw [ByteArray.size_extract]; omega) (wds_same HS3.out.2 (by rw [app_size]; show 1 + _ = _; rw [ByteArray.size_extract]; omega))



/-- a drawn list and two numbers, handed back -/
def DrawnRR (e : Ending) (w' : World) : Prop := ∃ ro rc l x y, Smp l ∧ e = .returned (.tuple #[.slice ro l.length rc, .int .i64 x, .int .i64 y]) ∧ CellsAt w' ro (l.map Value.string)
theorem smp_wsm {l : List ByteArray} (h : Smp l) (hw : Wds l) : Wsm l := ⟨h.1, h.2.1, fun _ hi => h.2.2 _ (getD_mem' hi), hw⟩

set_option maxRecDepth 100000 in
set_option maxHeartbeats 4000000 in
theorem drawPlanMerge_any (ao : Option Addr) (cap : Nat) (c : List UInt8) (w : World) (hcap : c.length ≤ cap) (hl : c.length ≤ 1048576) (hc : CellsAt w ao (c.map byteV)) :
    Calls Try.prog 5 #[.slice ao c.length cap] w fun e w' => DrawnRR e w' ∧ Below w.heap.size w w' := by
  have HO := Lib.hid (l6Open_any ao cap c w hcap hl hc)
  clear hc
  go_enter Try.func5, Try.ntmps5
  go_wp2_with fail
  refine HO.out.mono ?_
  rintro e w1 ⟨rfl, hr1, hb1⟩
  go_wp2_with fail
  refine (l91SomeW_any 0 w.heap.size 4 4 _ (by omega) (by omega) (by omega) hr1).mono ?_
  rintro e w2 ⟨ro, rc, l, ⟨hsm, hwd⟩, rfl, hla, hr2, hg2⟩
  have HL2 := Lib.hid hla
  have HB2 := Lib.hid (below_reader hb1 hb1.size hg2)
  have HS := Lib.hid hsm
  have HR2 := Lib.hid hr2
  obtain ⟨hn0, hn1⟩ := roomsB_fewM l
  obtain ⟨n, hn⟩ : ∃ n : Nat, roomsB l = (n : Int) := ⟨(roomsB l).toNat, by omega⟩
  have hn9 : n ≤ 159 := by omega
  have HRM := Lib.hid (fun w c => l1Rooms_any ro rc l w hsm.small.1 hsm.small.2 c)
  have HOF := Lib.hid (fun a w c => l4OfW_any ro rc l a w (smp_wsm hsm hwd) n hn hn9 hsm.small.1 hsm.small.2 c)
  rw [hn] at HRM
  clear hb1 hg2 hr1 hla hsm hwd hr2 hn0 hn1 hn
  have hrd := HR2.out
  go_wp2_with fail
  refine (HRM.out _ HL2.out.1).mono ?_
  rintro e w3 ⟨rfl, rfl⟩
  go_wp2_with fail
  refine (pick_any _ w.heap.size _ _ (by omega) hrd).mono ?_
  rintro e w5 ⟨v5, rfl, -, hr5, hg5⟩
  have HL5 := Lib.hid (HL2.out.grown hg5)
  have HB5 := Lib.hid (below_reader HB2.out HB2.out.size hg5)
  have HR5 := Lib.hid hr5
  clear hg5 hr5 hrd
  go_wp2_with fail
  refine (HOF.out _ _ HL5.out.1).mono ?_
  rintro e w6 ⟨so, sc, rfl, how, hb6⟩
  have hL := ofW_le l (v5 : Int) n
  clear HOF
  generalize ofW l (v5 : Int) n = L at *
  have HL6 := Lib.hid (show ListAt w.heap.size w6 ro l from ⟨HL5.out.1.below hb6, HL5.out.2⟩)
  have HB6 := Lib.hid (below_step HB5.out HB5.out.size hb6)
  have HR6 := Lib.hid (HR5.out.below hb6)
  have HQ6 := Lib.hid (owns_cells how)
  have HQB := Lib.hid (fun a (ha : so = some a) => show a.block ≠ w.heap.size by have := (owns_lt how a ha).1; have := HR5.out.lt; omega)
  clear how hb6 HL5 HB5 HR5
  by_cases h0 : 0 < L.length
  · have hd : decide ((0 : Int) < (L.length : Int)) = true := by rw [decide_eq_true_eq]; omega
    have hrd := HR6.out
    go_wp2_with fail
    refine (pick_any _ w.heap.size 6 _ (by omega) hrd).mono ?_
    rintro e w7 ⟨v7, rfl, -, hr7, hg7⟩
    have HL7 := Lib.hid (HL6.out.grown hg7)
    have HB7 := Lib.hid (below_reader HB6.out HB6.out.size hg7)
    have HQ7 := Lib.hid (HQ6.out.grown hg7 (fun a ha => by have := HQB.out a ha; simpa using this))
    have HR7 := Lib.hid hr7
    clear hg7 hr7 hrd
    by_cases h7 : 0 < v7
    · have hd7 : decide ((0 : Int) < (v7 : Int)) = true := by rw [decide_eq_true_eq]; omega
      obtain ⟨b, off, rfl, -⟩ := HQ7.out.int 0 h0
      have HRD := Lib.hid (fun k => HR7.out.below (below_drewN w7.heap.size w7 k))
      have HQD := Lib.hid (fun k => HQ7.out.below (below_drewN w7.heap.size w7 k))
      have HLD := Lib.hid (fun k => HL7.out.below (below_drewN w7.heap.size w7 k))
      have HBD := Lib.hid (fun k => HB7.out.trans (below_drewN w.heap.size w7 k))
      go_wp2
      go_region_with (go_at_call 17; refine (pick_any _ w.heap.size _ _ (by omega) (HRD.out 1)).mono ?_; rintro e w9 ⟨v9, rfl, hv9, hr9, hg9⟩; have hv : v9 < L.length := (by omega); have hvi : (v9 : Int) < (L.length : Int) := (by omega); have HL9 := Lib.hid ((HLD.out 1).grown hg9); have HB9 := Lib.hid (below_reader (HBD.out 1) (HBD.out 1).size hg9); obtain ⟨b', off', he, k⟩ := ((HQD.out 1).grown hg9 (fun a ha => (by have := HQB.out a ha; simpa using this))).int v9 hv; simp only [Option.some.injEq, Addr.mk.injEq, and_true] at he; obtain ⟨rfl, rfl⟩ := he; obtain ⟨x9, hx9⟩ : ∃ x9, L.getD v9 0 = x9 := ⟨_, rfl⟩; rw [hx9] at k; clear hx9 hg9 hr9 hv9)
      all_goals
        go_wp2
        exact bodyPost_ret (v := .tuple #[.slice ro l.length rc, .int .i64 (v5 : Nat), .int .i64 x9]) (by simp [results, Try.f5, go_sem]) rfl ⟨⟨ro, rc, l, _, _, HS.out, rfl, HL9.out.1⟩, HB9.out⟩
    · have hd7 : decide ((0 : Int) < (v7 : Int)) = false := by rw [decide_eq_false_iff_not]; omega
      have hrd := HR7.out
      go_wp2_with fail
      refine (HRM.out _ HL7.out.1).mono ?_
      rintro e w8 ⟨rfl, rfl⟩
      go_wp2_with fail
      refine (pick_any _ w.heap.size _ _ (by omega) hrd).mono ?_
      rintro e w9 ⟨v9, rfl, -, hr9, hg9⟩
      have HL9 := Lib.hid (HL7.out.grown hg9)
      have HB9 := Lib.hid (below_reader HB7.out HB7.out.size hg9)
      clear hg9 hrd
      go_wp2_with fail
      refine (pick_any _ w.heap.size 24 _ (by omega) hr9).mono ?_
      rintro e w10 ⟨v10, rfl, -, hr10, hg10⟩
      have HL10 := Lib.hid (HL9.out.grown hg10)
      have HB10 := Lib.hid (below_reader HB9.out HB9.out.size hg10)
      clear hg10 hr9 hr10
      go_wp2
      exact bodyPost_ret (v := .tuple #[.slice ro l.length rc, .int .i64 (v5 : Nat), .int .i64 (wrap64 ((v9 : Int) - wrap64 ((v10 : Int) / 23)))]) (by simp [results, Try.f5, go_sem]) rfl ⟨⟨ro, rc, l, _, _, HS.out, rfl, HL10.out.1⟩, HB10.out⟩
  · have hd : decide ((0 : Int) < (L.length : Int)) = false := by rw [decide_eq_false_iff_not]; omega
    have hrd := HR6.out
    go_wp2_with fail
    refine (HRM.out _ HL6.out.1).mono ?_
    rintro e w8 ⟨rfl, rfl⟩
    go_wp2_with fail
    refine (pick_any _ w.heap.size _ _ (by omega) hrd).mono ?_
    rintro e w9 ⟨v9, rfl, -, hr9, hg9⟩
    have HL9 := Lib.hid (HL6.out.grown hg9)
    have HB9 := Lib.hid (below_reader HB6.out HB6.out.size hg9)
    clear hg9 hrd
    go_wp2_with fail
    refine (pick_any _ w.heap.size 24 _ (by omega) hr9).mono ?_
    rintro e w10 ⟨v10, rfl, -, hr10, hg10⟩
    have HL10 := Lib.hid (HL9.out.grown hg10)
    have HB10 := Lib.hid (below_reader HB9.out HB9.out.size hg10)
    clear hg10 hr9 hr10
    go_wp2
    exact bodyPost_ret (v := .tuple #[.slice ro l.length rc, .int .i64 (v5 : Nat), .int .i64 (wrap64 ((v9 : Int) - wrap64 ((v10 : Int) / 23)))]) (by simp [results, Try.f5, go_sem]) rfl ⟨⟨ro, rc, l, _, _, HS.out, rfl, HL10.out.1⟩, HB10.out⟩

end Go.Proofs.Ytjdlapcikpmdgaa
