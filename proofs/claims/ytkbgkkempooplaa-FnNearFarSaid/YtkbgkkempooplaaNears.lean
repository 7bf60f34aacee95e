
/-
  Merged texts: NearS NearM NearO.
-/
import Derived.Test.YtkbgkkempooplaaTurns
import Derived.Test.YtkbgkkempooplaaRoomA
import Derived.Test.YtkbgkkempooplaaRoomsA
import Derived.Test.YtkbgkkempooplaaNests

/-
  Along how many cells two rooms lie beside each other: the model's answer. (Walks.)
-/
namespace Go.Proofs.Ytkbgkkempooplaa
open Go.RowKit

/-- whether the letters ahead of a place and at it are two rooms' -/
def hitL (p : List ByteArray) (a b : Int) (i k : Nat) : Bool :=
  ((((byteAt p i (k - 1)).toNat : Int) - 97 == a) && (((byteAt p i k).toNat : Int) - 97 == b)) || ((((byteAt p i (k - 1)).toNat : Int) - 97 == b) && (((byteAt p i k).toNat : Int) - 97 == a))
def rowL (p : List ByteArray) (a b : Int) (i n : Nat) : Nat := sumN n fun t => if hitL p a b i (t + 1) then 1 else 0
def lenL (p : List ByteArray) (a b : Int) (h : Nat) : Nat := sumN h fun i => rowL p a b i (wideB p - 1)
theorem rowL_succ (p : List ByteArray) (a b : Int) (i n : Nat) : rowL p a b i (n + 1) = rowL p a b i n + if hitL p a b i (n + 1) then 1 else 0 := rfl
theorem rowL_le (p : List ByteArray) (a b : Int) (i n : Nat) : rowL p a b i n ≤ n := by
  induction n with
  | zero => exact Nat.le_refl _
  | succ n ih => rw [rowL_succ]; split <;> omega
theorem lenL_succ (p : List ByteArray) (a b : Int) (h : Nat) : lenL p a b (h + 1) = lenL p a b h + rowL p a b h (wideB p - 1) := rfl
theorem lenL_le (p : List ByteArray) (a b : Int) (h : Nat) (hw : wideB p ≤ 6) : lenL p a b h ≤ h * 5 := by
  induction h with
  | zero => exact Nat.le_refl _
  | succ h ih => rw [lenL_succ]; have := rowL_le p a b h (wideB p - 1); omega

set_option maxRecDepth 100000 in
set_option maxHeartbeats 4000000 in
theorem l4Length_any (ao : Option Addr) (cap n : Nat) (p : List ByteArray) (a b : Int) (w : World) (hn : p.length = n) (hl : p.length ≤ 6) (hw1 : 1 ≤ wideB p) (hw : wideB p ≤ 6) (he : Even p) (hc : CellsAt w ao (p.map Value.string)) :
    Calls Try.prog 45 #[.slice ao n cap, .int .i64 a, .int .i64 b] w
      fun e w' => e = .returned (.int .i64 (lenL p a b p.length : Nat)) ∧ w' = w := by
  subst hn
  have HC := Lib.hid hc
  have HE := Lib.hid he
  obtain ⟨wd, hwd⟩ : ∃ wd, wideB p = wd := ⟨_, rfl⟩
  have HLS := Lib.hid (fun h => lenL_succ p a b h)
  have HLL := Lib.hid (fun h => lenL_le p a b h hw)
  have HRS := Lib.hid (fun i t => rowL_succ p a b i t)
  have HRL := Lib.hid (fun i t => rowL_le p a b i t)
  have HLZ := Lib.hid (show lenL p a b 0 = 0 from rfl)
  have HRZ := Lib.hid (fun i => show rowL p a b i 0 = 0 from rfl)
  have HHI := Lib.hid (fun i k => show hitL p a b i k = (((((byteAt p i (k - 1)).toNat : Int) - 97 == a) && (((byteAt p i k).toNat : Int) - 97 == b)) || ((((byteAt p i (k - 1)).toNat : Int) - 97 == b) && (((byteAt p i k).toNat : Int) - 97 == a))) from rfl)
  unfold Even at HE
  unfold byteAt at HHI
  rw [hwd] at HE HLS hw hw1
  generalize hLF : lenL p a b = LF at *
  generalize hRF : rowL p a b = RF at *
  generalize hHF : hitL p a b = HF at *
  clear hc he hLF hRF hHF hwd
  go_enter Try.func45, Try.ntmps45
  go_wp2
  go_loopw [7, 8] (fun vn vi wr => ∃ i : Nat, i ≤ p.length ∧ vi = .int .i64 i ∧ vn = .int .i64 (LF i : Nat) ∧ wr = w) (fun _ vi _ => p.length - (intOf vi).toNat)
  case atStart => exact ⟨0, Nat.zero_le _, rfl, by rw [HLZ.out]; rfl, rfl⟩
  case round =>
    obtain ⟨i, hi, rfl, rfl, rfl⟩ := hrel
    by_cases hlt : i < p.length
    · have hlt' : decide ((i : Int) < (p.length : Int)) = true := by rw [decide_eq_true_eq]; omega
      obtain ⟨bb, off, rfl, hck⟩ := HC.out.str i hlt
      have hsz := HE.out i hlt
      have HLS2 := Lib.hid (HLS.out i)
      have hA := HLL.out i
      have HH := Lib.hid (fun k => HHI.out i k)
      generalize p.getD i ByteArray.empty = s at *
      generalize LF i = A at *
      subst hsz
      have HA0 := Lib.hid (show A = A + RF i 0 by rw [HRZ.out, Nat.add_zero])
      go_wp2
      go_loopw [7, 9] (fun vn vk wm => ∃ t : Nat, t ≤ s.size - 1 ∧ vk = .int .i64 (t + 1 : Nat) ∧ vn = .int .i64 (A + RF i t : Nat) ∧ wm = wr) (fun _ vk _ => s.size - (intOf vk).toNat)
      case atStart => exact ⟨0, Nat.zero_le _, rfl, by rw [← HA0.out], rfl⟩
      case round =>
        obtain ⟨t, ht, rfl, rfl, rfl⟩ := hrel
        by_cases hkl : t + 1 < s.size
        · have hkl' : decide (((t + 1 : Nat) : Int) < (s.size : Int)) = true := by rw [decide_eq_true_eq]; omega
          have x1 := at_list s (t + 1) hkl
          have x0 := at_list s t (by omega)
          have hk1 : ((t + 1 : Nat) : Int) - 1 = (t : Int) := by omega
          have htl : t < s.size := by omega
          have HX := Lib.hid (HH.out (t + 1))
          have HU := Lib.hid (HRS.out i t)
          rw [Nat.add_sub_cancel] at HX
          have hR := HRL.out i t
          generalize RF i t = B at *
          generalize HF i (t + 1) = F at *
          generalize s.data.toList.getD (t + 1) 0 = c1 at *
          generalize s.data.toList.getD t 0 = c0 at *
          have hc0 := UInt8.toNat_lt c0
          have hc1 := UInt8.toNat_lt c1
          clear HH HE HLS HLL HLZ HRS HRL HRZ HHI HC
          cases h1 : (((c0.toNat : Int) - 97) == a) <;> cases h2 : (((c1.toNat : Int) - 97) == b) <;> cases h3 : (((c0.toNat : Int) - 97) == b) <;> cases h4 : (((c1.toNat : Int) - 97) == a) <;>
            (have HF2 := HX.out
             rw [h1, h2, h3, h4] at HF2
             simp only [Bool.and_true, Bool.and_false, Bool.or_true, Bool.or_false] at HF2
             have HV := HU.out
             rw [HF2] at HV
             simp only [if_true, if_false, Bool.false_eq_true, Nat.add_zero] at HV
             have HW := Lib.hid HV
             clear HV HF2 HX HU
             go_wp2
             go_roundw
             case rel => exact ⟨t + 1, by omega, by go_num, by (rw [HW.out]; try go_num), by first | rfl | trivial⟩
             case measure => simp [intOf]; omega)
        · have hkl' : decide (((t + 1 : Nat) : Int) < (s.size : Int)) = false := by rw [decide_eq_false_iff_not]; omega
          obtain rfl : t = s.size - 1 := by omega
          have HW := Lib.hid (show LF (i + 1) = A + RF i (s.size - 1) from HLS2.out)
          generalize RF i (s.size - 1) = B at *
          go_wp2
          go_roundw
          case rel => exact ⟨i + 1, by omega, by go_num, by rw [HW.out], by first | rfl | trivial⟩
          case measure => simp [intOf]; omega
    · have hlt' : decide ((i : Int) < (p.length : Int)) = false := by rw [decide_eq_false_iff_not]; omega
      obtain rfl : i = p.length := by omega
      go_wp2
      go_ret
      exact ⟨rfl, rfl⟩

/-- cells both ways -/
def besN (p : List ByteArray) (a b : Int) : Nat := if a = b then 0 else lenL p a b p.length + lenL (transB p) a b (wideB p)
theorem besN_le {p : List ByteArray} (hp : GridP p) (a b : Int) : besN p a b ≤ 60 := by
  have h6 := hp.h6; have w6 := hp.w6
  have h1 := lenL_le p a b p.length hp.w6
  have h2 := lenL_le (transB p) a b (wideB p) (by rw [transB_wide hp.w1]; exact hp.h6)
  unfold besN
  split
  · omega
  · omega

set_option maxRecDepth 100000 in
theorem l4Beside_any (ao : Option Addr) (cap n : Nat) (p : List ByteArray) (a b : Int) (w : World) (hn : p.length = n) (hp : GridP p) (hc : CellsAt w ao (p.map Value.string)) :
    Calls Try.prog 27 #[.slice ao n cap, .int .i64 a, .int .i64 b] w
      fun e w' => e = .returned (.int .i64 (besN p a b : Nat)) ∧ Below w.heap.size w w' := by
  subst hn
  have hle := besN_le hp a b
  by_cases hab : a = b
  · have h1 : (a == b) = true := by rw [beq_iff_eq]; exact hab
    have h0 : besN p a b = 0 := if_pos hab
    rw [h0]
    clear hle h0 hab
    go_enter Try.func27, Try.ntmps27
    go_wp2
    go_ret
    exact ⟨rfl, Below.refl _ _⟩
  · have h1 : (a == b) = false := by rw [beq_eq_false_iff_ne]; exact hab
    have h0 : besN p a b = lenL p a b p.length + lenL (transB p) a b (wideB p) := if_neg hab
    have HL := Lib.hid (fun w (c : CellsAt w ao (p.map Value.string)) => l4Length_any ao cap _ p a b w rfl hp.h6 hp.w1 hp.w6 hp.even c)
    have HT := Lib.hid (fun w (c : CellsAt w ao (p.map Value.string)) => l1Trans_any ao cap _ p w rfl hp.h1 (by have := hp.h6; omega) (by have := hp.w6; omega) hp.even c)
    have HM := Lib.hid (fun ro rc w (c : CellsAt w ro ((transB p).map Value.string)) => l4Length_any ro rc (wideB p) (transB p) a b w (transB_len p) (by rw [transB_len]; exact hp.w6) (by rw [transB_wide hp.w1]; exact hp.h1) (by rw [transB_wide hp.w1]; exact hp.h6) (transB_even hp.w1) c)
    rw [transB_len] at HM
    have hs : lenL p a b p.length + lenL (transB p) a b (wideB p) ≤ 60 := by rw [← h0]; exact hle
    rw [h0]
    clear hle h0 hab
    generalize lenL p a b p.length = A at *
    generalize lenL (transB p) a b (wideB p) = B at *
    go_enter Try.func27, Try.ntmps27
    go_wp2_with fail
    refine (HL.out _ hc).mono ?_
    rintro e w1 ⟨rfl, rfl⟩
    go_wp2_with fail
    refine (HT.out _ hc).mono ?_
    rintro e w2 ⟨ro, rc, rfl, ow, hb⟩
    have c2 := owns_cells ow
    clear ow
    go_wp2_with fail
    refine (HM.out _ _ _ c2).mono ?_
    rintro e w3 ⟨rfl, rfl⟩
    go_wp2
    go_ret
    exact ⟨ret_int (by omega), hb⟩

end Go.Proofs.Ytkbgkkempooplaa

/-
  Whether two rooms are neighbours, and along how many cells: the model's answers. (Walks.)
-/
namespace Go.Proofs.Ytkbgkkempooplaa
open Go.RowKit

def nearIs (p : List ByteArray) (a b : Int) : Bool := givenB p a && (givenB p b && decide (0 < besN p a b))
def nlenOk (p : List ByteArray) (a b : Int) : Bool := givenB p a && (givenB p b && !(a == b))
def nlenN (p : List ByteArray) (a b : Int) : Nat := if nlenOk p a b then besN p a b else 0
theorem given_grid {p : List ByteArray} {a : Int} (h : givenB p a = true) : GridP p := by
  unfold givenB at h
  rw [Bool.and_eq_true] at h
  exact (planP_of h.1).grid

set_option maxRecDepth 100000 in
theorem specNearIs_any (ao : Option Addr) (cap : Nat) (p : List ByteArray) (a b : Int) (w : World) (hl : p.length ≤ 1048576) (hs : ∀ s ∈ p, s.size ≤ 1048576) (hc : CellsAt w ao (p.map Value.string)) :
    Calls Try.prog 9 #[.slice ao p.length cap, .int .i64 a, .int .i64 b] w fun e w' => e = .returned (.bool (nearIs p a b)) ∧ Below w.heap.size w w' := by
  have HA := Lib.hid (fun w c => l1Given_any ao cap p a w hl hs c)
  have HB := Lib.hid (fun w c => l1Given_any ao cap p b w hl hs c)
  cases ha : givenB p a
  · have h0 : nearIs p a b = false := by unfold nearIs; rw [ha]; rfl
    rw [h0]; rw [ha] at HA
    go_enter Try.func9, Try.ntmps9
    go_wp2_with fail
    refine (HA.out _ hc).mono ?_
    rintro e w1 ⟨rfl, hb1⟩
    go_wp2
    go_ret
    exact ⟨rfl, hb1⟩
  · cases hb : givenB p b
    · have h0 : nearIs p a b = false := by unfold nearIs; rw [ha, hb]; rfl
      rw [h0]; rw [ha] at HA; rw [hb] at HB
      go_enter Try.func9, Try.ntmps9
      go_wp2_with fail
      refine (HA.out _ hc).mono ?_
      rintro e w1 ⟨rfl, hb1⟩
      have c1 := hc.below hb1
      go_wp2_with fail
      refine (HB.out _ c1).mono ?_
      rintro e w2 ⟨rfl, hb2⟩
      go_wp2
      go_ret
      exact ⟨rfl, below_step hb1 hb1.size hb2⟩
    · have hg := given_grid ha
      have h0 : nearIs p a b = decide (0 < besN p a b) := by unfold nearIs; rw [ha, hb]; rfl
      have HN := Lib.hid (fun w c => l4Beside_any ao cap _ p a b w rfl hg c)
      rw [h0]; rw [ha] at HA; rw [hb] at HB
      clear h0
      generalize besN p a b = n at *
      go_enter Try.func9, Try.ntmps9
      go_wp2_with fail
      refine (HA.out _ hc).mono ?_
      rintro e w1 ⟨rfl, hb1⟩
      have c1 := hc.below hb1
      go_wp2_with fail
      refine (HB.out _ c1).mono ?_
      rintro e w2 ⟨rfl, hb2⟩
      have c2 := c1.below hb2
      go_wp2_with fail
      refine (HN.out _ c2).mono ?_
      rintro e w3 ⟨rfl, hb3⟩
      have z2 := below_step hb1 hb1.size hb2
      have hz : decide ((0 : Int) < (n : Int)) = decide (0 < n) := by congr 1; rw [eq_iff_iff]; omega
      cases hn : decide (0 < n)
      · rw [hn] at hz
        go_wp2
        go_ret
        exact ⟨by simpa using hn, below_step z2 z2.size hb3⟩
      · rw [hn] at hz
        go_wp2
        go_ret
        exact ⟨by simpa using hn, below_step z2 z2.size hb3⟩

end Go.Proofs.Ytkbgkkempooplaa

/-
  The neighbours of a room: the model's answer. (Walk.)
-/
namespace Go.Proofs.Ytkbgkkempooplaa
open Go.RowKit

def ofL (p : List ByteArray) (a : Int) (n : Nat) : List Int := ((List.range n).filter fun (b : Nat) => decide (0 < besN p a (b : Int))).map fun (b : Nat) => (b : Int)
theorem ofL_yes {p : List ByteArray} {a : Int} {n : Nat} (h : 0 < besN p a (n : Int)) : ofL p a (n + 1) = ofL p a n ++ [(n : Int)] := by
  unfold ofL
  rw [List.range_succ, List.filter_append, List.map_append, List.filter_cons, decide_eq_true h, List.filter_nil]
  rfl
theorem ofL_no {p : List ByteArray} {a : Int} {n : Nat} (h : ¬ 0 < besN p a (n : Int)) : ofL p a (n + 1) = ofL p a n := by
  unfold ofL
  rw [List.range_succ, List.filter_append, List.map_append, List.filter_cons, decide_eq_false h, List.filter_nil]
  simp
theorem ofL_le (p : List ByteArray) (a : Int) (n : Nat) : (ofL p a n).length ≤ n := by
  unfold ofL
  rw [List.length_map]
  exact Nat.le_trans (List.length_filter_le _ _) (by simp)

set_option maxRecDepth 100000 in
set_option maxHeartbeats 2000000 in
theorem l4Of_any (ao : Option Addr) (cap : Nat) (p : List ByteArray) (a : Int) (w : World) (hp : planB p = true) (hl : p.length ≤ 1048576) (hs : ∀ s ∈ p, s.size ≤ 1048576) (hc : CellsAt w ao (p.map Value.string)) :
    Calls Try.prog 52 #[.slice ao p.length cap, .int .i64 a] w
      fun e w' => ∃ ro rc, e = .returned (.slice ro (ofL p a (gridR p)).length rc) ∧ w'.ownsRow w.heap.size 3 1 (.slice ro (ofL p a (gridR p)).length rc) (ofL p a (gridR p)).length ((ofL p a (gridR p)).map (Value.int .i64)) ∧ Below w.heap.size w w' := by
  obtain ⟨it, hti, htz, ht1, ht2⟩ := info_parts Try.infoNum
  have hg := (planP_of hp).grid
  have hb0 := below_alloc w (.cells #[] 3)
  have hr0 : (w.alloc (.cells #[] 3)).ownsRow w.heap.size 3 1 (.slice (some ⟨w.heap.size, 0, none⟩) 0 0) 0 ((ofL p a 0).map (Value.int .i64)) := World.ownsRow_made w #[] 0 (Nat.le_refl _) (Nat.zero_le _) rfl
  have hR9 := (planP_of hp).few
  have hR := (planP_of hp).rooms
  have HR := Lib.hid (fun w c => l1Rooms_any ao cap p w hl hs c)
  rw [hR] at HR
  have HB := Lib.hid (fun (b : Nat) w c => l4Beside_any ao cap _ p a b w rfl hg c)
  generalize gridR p = n at *
  clear hg hR hp
  go_enter Try.func52, Try.ntmps52
  go_wp2
  go_loopw [5, 6] (fun vo vi wr => ∃ (i : Nat) (ro : Option Addr) (rc : Nat), i ≤ n ∧ vi = .int .i64 i ∧ vo = .slice ro (ofL p a i).length rc ∧ wr.ownsRow w.heap.size 3 1 (.slice ro (ofL p a i).length rc) (ofL p a i).length ((ofL p a i).map (Value.int .i64)) ∧ Below w.heap.size w wr) (fun _ vi _ => n - (intOf vi).toNat)
  case atStart => exact ⟨0, _, _, Nat.zero_le _, rfl, rfl, hr0, hb0⟩
  case round =>
    clear hr0 hb0
    obtain ⟨i, ro, rc, hi, rfl, rfl, hrow, hb⟩ := hrel
    have hcr := hc.below hb
    have hbs := hb.size
    go_wp2_with fail
    refine (HR.out _ hcr).mono ?_
    rintro e w2 ⟨rfl, rfl⟩
    by_cases hlt : i < n
    · have hlt' : decide ((i : Int) < (n : Int)) = true := by rw [decide_eq_true_eq]; omega
      have hle := ofL_le p a i
      go_wp2_with fail
      refine (HB.out i _ hcr).mono ?_
      rintro e w3 ⟨rfl, hb3⟩
      have hrow3 := ownsRow_below hrow hb3
      have hb4 := below_step hb hb.size hb3
      have hbs4 := hb4.size
      by_cases hn : 0 < besN p a (i : Int)
      · have HSU := Lib.hid (ofL_yes hn)
        have hn' : decide ((0 : Int) < (besN p a (i : Int) : Int)) = true := by rw [decide_eq_true_eq]; omega
        generalize besN p a (i : Int) = B at *
        generalize ofL p a i = L at *
        have hb1' : L.length + 1 ≤ maxLen := by unfold maxLen; omega
        have hb2' : (L.length + 1) * 8 ≤ 140737488355328 := by omega
        clear hle
        go_wp2_with (at_builtin; refine wpList_push _ rfl (.tmp 19) (.tmp 21) 30 rfl w.heap.size 3 it (.int .i64 0) 8 Try.underlying30 hti htz ht1 ht2 rfl ro L.length rc _ rfl (hrow3.alloc _) _ _ _ rfl (cell_new _ _ _) rfl hb1' hb2' (by simp; omega) ?_; intro ro2 rc2 w4 hrow2 hg2 hnew2)
        have hlen : (ofL p a (i + 1)).length = L.length + 1 := by rw [HSU.out, List.length_append]; rfl
        have HLN := Lib.hid hlen
        clear hlen
        go_roundw
        case rel => exact ⟨i + 1, ro2, rc2, by omega, by go_num, by rw [HLN.out], by rw [HLN.out, HSU.out, List.map_append]; exact hrow2, below_push hb4 hbs4 hg2 (fun a ha => (owns_lt hrow3 a ha).1)⟩
        case measure => simp [intOf]; omega
      · have HSU := Lib.hid (ofL_no hn)
        have hn' : decide ((0 : Int) < (besN p a (i : Int) : Int)) = false := by rw [decide_eq_false_iff_not]; omega
        generalize besN p a (i : Int) = B at *
        go_wp2
        go_roundw
        case rel => exact ⟨i + 1, ro, rc, by omega, by go_num, by rw [HSU.out], by rw [HSU.out]; exact hrow3, hb4⟩
        case measure => simp [intOf]; omega
    · obtain rfl : i = n := by omega
      have hlt' : decide ((i : Int) < (i : Int)) = false := by rw [decide_eq_false_iff_not]; omega
      go_wp2
      go_ret
      exact ⟨_, _, rfl, hrow, hb⟩

def nearL (p : List ByteArray) (a : Int) : List Int := if givenB p a then ofL p a (gridR p) else []

/-- pairs of neighbours: rooms ahead of a room; of all -/
def pairN (p : List ByteArray) (a n : Nat) : Nat := (List.range n).countP fun (b : Nat) => decide (0 < besN p (a : Int) (b : Int))
def pairsN (p : List ByteArray) (n : Nat) : Nat := sumN n fun a => pairN p a a
theorem pairN_succ (p : List ByteArray) (a n : Nat) : pairN p a (n + 1) = pairN p a n + if 0 < besN p (a : Int) (n : Int) then 1 else 0 := by
  unfold pairN
  rw [List.range_succ, List.countP_append, List.countP_singleton]
  simp only [decide_eq_true_eq]
theorem pairN_le (p : List ByteArray) (a n : Nat) : pairN p a n ≤ n := by
  unfold pairN; have := List.countP_le_length (p := fun (b : Nat) => decide (0 < besN p (a : Int) (b : Int))) (l := List.range n); simpa using this
theorem pairsN_succ (p : List ByteArray) (n : Nat) : pairsN p (n + 1) = pairsN p n + pairN p n n := rfl
theorem pairsN_le (p : List ByteArray) (n : Nat) (h : n ≤ 9) : pairsN p n ≤ n * 9 := by
  induction n with
  | zero => exact Nat.le_refl _
  | succ n ih => rw [pairsN_succ]; have := pairN_le p n n; have := ih (by omega); omega
def manyN (p : List ByteArray) : Nat := if planB p then pairsN p (gridR p) else 0

end Go.Proofs.Ytkbgkkempooplaa
