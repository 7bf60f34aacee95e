
/-
  The model's lists of texts turned, read backwards, with rows and columns exchanged. (Walks.)
-/
import Derived.Test.YtdhnklaflbaeeaaSpecE
namespace Go.Proofs.Ytdhnklaflbaeeaa
open Go.RowKit

/-- texts by their bytes -/
def rowM (m : Nat) (b : Nat → Nat → UInt8) (i : Nat) : List UInt8 := (List.range m).map (b i)
def matB (n m : Nat) (b : Nat → Nat → UInt8) : List ByteArray := (List.range n).map fun i => ⟨(rowM m b i).toArray⟩
theorem rowM_len (m : Nat) (b : Nat → Nat → UInt8) (i : Nat) : (rowM m b i).length = m := by simp [rowM]
theorem rowM_succ (m : Nat) (b : Nat → Nat → UInt8) (i : Nat) : rowM (m + 1) b i = rowM m b i ++ [b i m] := by simp [rowM, List.range_succ]
theorem matB_len (n m : Nat) (b : Nat → Nat → UInt8) : (matB n m b).length = n := by simp [matB]
theorem matB_succ (n m : Nat) (b : Nat → Nat → UInt8) : matB (n + 1) m b = matB n m b ++ [⟨(rowM m b n).toArray⟩] := by simp [matB, List.range_succ]
theorem matB_size {n m : Nat} {b : Nat → Nat → UInt8} : ∀ s ∈ matB n m b, s.size = m := fun s hs => by
  unfold matB at hs
  rw [List.mem_map] at hs
  obtain ⟨i, _, rfl⟩ := hs
  rw [← size_list]
  exact rowM_len _ _ _
theorem rowsT_mat (h wd : Nat) (g : Nat → Nat → Nat) : rowsT h wd g = matB h wd (fun i j => UInt8.ofNat (97 + g i j)) := rfl

theorem byte_elem (c : UInt8) (l : List UInt8) : l.map byteV ++ [Value.int .u8 (c.toNat : Int)] = (l ++ [c]).map byteV := by simp [byteV]

def transB (p : List ByteArray) : List ByteArray := matB (wideB p) p.length (fun k i => byteAt p i k)

set_option maxHeartbeats 1000000 in
theorem l1Trans_any (ao : Option Addr) (cap n : Nat) (p : List ByteArray) (w : World) (hn : p.length = n) (h1 : 1 ≤ p.length) (hl : p.length ≤ 1048576) (hw : wideB p ≤ 1048576) (he : Even p)
    (hc : CellsAt w ao (p.map Value.string)) :
    Calls Try.prog 106 #[.slice ao n cap] w
      fun e w' => ∃ ro rc, e = .returned (.slice ro (wideB p) rc) ∧ w'.ownsRow w.heap.size 9 1 (.slice ro (wideB p) rc) (wideB p) ((transB p).map Value.string) ∧ Below w.heap.size w w' := by
  subst hn
  obtain ⟨ib, hbi, hbz, hb1, hb2⟩ := info_parts Try.infoByte
  obtain ⟨it, hti, htz, ht1, ht2⟩ := info_parts Try.infoText
  obtain ⟨b, hbd⟩ : ∃ b, b = (fun k i => byteAt p i k) := ⟨_, rfl⟩
  have hbe : ∀ k t, k < wideB p → t < p.length → b k t = byteAt p t k := fun k t hk ht => by subst hbd; rfl
  have HBE := Lib.hid hbe; clear hbe
  have hsz : ∀ i, i < p.length → (p.getD i ByteArray.empty).size = wideB p := he
  have HSZ := Lib.hid hsz; clear hsz he
  have HBD := Lib.hid hbd; clear hbd
  have HC := Lib.hid hc
  obtain ⟨b0, off0, ha0, hc0⟩ := hc.str 0 (by omega)
  subst ha0
  rw [Nat.add_zero] at hc0
  have hs0 : (p.getD 0 ByteArray.empty).size = wideB p := rfl
  generalize p.getD 0 ByteArray.empty = s0 at *
  have hp0 : 0 < p.length := h1
  clear hc
  go_enter Try.func106, Try.ntmps106
  go_wp2
  have hW1 := below_alloc w (.cells #[] 9)
  have hr1 : (w.alloc (.cells #[] 9)).ownsRow w.heap.size 9 1 (.slice (some ⟨w.heap.size, 0, none⟩) 0 0) 0 ((matB 0 (p.length) b).map Value.string) := World.ownsRow_made w #[] 0 (Nat.le_refl _) (Nat.zero_le _) rfl
  go_loopw [3, 4] (fun vo vk wr => ∃ (k : Nat) (ro : Option Addr) (rc : Nat), k ≤ wideB p ∧ vk = .int .i64 k ∧ vo = .slice ro k rc ∧ wr.ownsRow w.heap.size 9 1 (.slice ro k rc) k ((matB k (p.length) b).map Value.string) ∧ Below w.heap.size w wr) (fun _ k _ => wideB p - (intOf k).toNat)
  case atStart => exact ⟨0, _, _, Nat.zero_le _, rfl, rfl, hr1, hW1⟩
  case round =>
    clear hr1 hW1
    obtain ⟨k, ro, rc, hk, rfl, rfl, hrow, hb⟩ := hrel
    have hbs := hb.size
    have hc0r := cell_below hc0 hb
    by_cases hlt : k < wideB p
    · go_wp2
      go_loopw [5, 6] (fun vr vi wm => ∃ (t : Nat) (so : Option Addr) (sc : Nat), t ≤ p.length ∧ vi = .int .i64 (t : Int) ∧ vr = .slice so t sc ∧ wm.ownsRow w.heap.size 5 1 (.slice so t sc) t ((rowM t b k).map byteV) ∧
          wm.ownsRow w.heap.size 9 1 (.slice ro k rc) k ((matB k (p.length) b).map Value.string) ∧ Apart so ro ∧ Below w.heap.size w wm) (fun _ vi _ => p.length - (intOf vi).toNat)
      case atStart => exact ⟨0, _, 0, Nat.zero_le _, rfl, rfl, World.ownsRow_made wr #[] 0 hbs (Nat.zero_le _) rfl, hrow.alloc _, (Apart.fresh (fun a ha => (owns_lt hrow a ha).2) (Nat.le_refl _) 0 none).symm, hb.alloc hbs _⟩
      case round =>
        clear hrow hb hbs hc0r
        obtain ⟨t, so, sc, ht, rfl, rfl, hnam, hrow, hap, hb⟩ := hrel
        have hbs := hb.size
        by_cases htl : t < p.length
        · have hbv : b k t = byteAt p t k := by rw [HBE.out k t hlt htl]
          have hrl : t < p.length := by omega
          have hcl : k < wideB p := by omega
          obtain ⟨b2, off2, ha2, hc2⟩ := (HC.out.below hb).str t hrl
          simp only [Option.some.injEq, Addr.mk.injEq, and_true] at ha2
          obtain ⟨rfl, rfl⟩ := ha2
          have hcs : k < (p.getD t ByteArray.empty).size := by rw [HSZ.out t hrl]; omega
          have hidx := at_list (p.getD t ByteArray.empty) k hcs
          unfold byteAt at hbv
          have HBV := Lib.hid hbv; clear hbv
          have HRS := Lib.hid (rowM_succ t b k)
          have hb1' : t + 1 ≤ maxLen := by unfold maxLen; omega
          have hb2' : (t + 1) * 1 ≤ 140737488355328 := by omega
          have HEL := Lib.hid (byte_elem (b k t) (rowM t b k))
          generalize hgd : (p.getD t ByteArray.empty).data.toList.getD k 0 = c at *
          generalize p.getD t ByteArray.empty = s at *
          clear hgd
          go_wp2_with (at_builtin; refine wpList_push _ rfl (.tmp 23) (.tmp 30) 22 rfl w.heap.size 5 ib (.int .u8 0) 1 Try.underlying22 hbi hbz hb1 hb2 rfl so t sc _ rfl (hnam.alloc _) _ _ _ rfl (cell_new _ _ _) rfl hb1' hb2' (by simp; omega) ?_; intro so2 sc2 w2 hnam2 hg2 hnew2)
          have hlt3 := owns_lt hrow
          have hnm : (rowM t b k).map byteV ++ [Value.int .u8 (c.toNat : Int)] = (rowM (t + 1) b k).map byteV := by rw [HRS.out, ← HEL.out, HBV.out]
          have HNM := Lib.hid hnm; clear hnm
          go_roundw
          case rel => exact ⟨t + 1, so2, sc2, by omega, by go_num, rfl, owns_eq hnam2 HNM.out, owns_push_other hrow hg2 hap.symm, apart_push hap hnew2 (fun a ha => (hlt3 a ha).2), below_push hb hbs hg2 (fun a ha => (owns_lt hnam a ha).1)⟩
          case measure => first | (simp [intOf]; omega) | simp [intOf]
        · obtain rfl : t = p.length := by omega
          have HST := Lib.hid (matB_succ k (p.length) b)
          have hst : (matB k (p.length) b).map Value.string ++ [.string ⟨(rowM (p.length) b k).toArray⟩] = (matB (k + 1) (p.length) b).map Value.string := by rw [HST.out, List.map_append]; rfl
          have HSTT := Lib.hid hst; clear hst
          have hb1' : k + 1 ≤ maxLen := by unfold maxLen; omega
          have hb2' : (k + 1) * 16 ≤ 140737488355328 := by omega
          go_wp2_with (first
            | (at_builtin; refine wpList_push _ rfl (.tmp 32) (.tmp 35) 23 rfl w.heap.size 9 it (.string ⟨#[]⟩) 16 Try.underlying23 hti htz ht1 ht2 rfl ro k rc _ rfl (hrow.alloc _) _ _ _ rfl (cell_new _ _ _) rfl hb1' hb2' (by simp; omega) ?_; intro ro2 rc2 w2 hrow2 hg2 hnew2)
            | (refine wpList_str_of_bytes _ rfl 22 9 5 _ rfl Try.underlying22 Try.underlying5 Try.underlying9 so (p.length) sc rfl (rowM (p.length) b k) (rowM_len _ _ _) (owns_cells hnam) ?_))
          go_roundw
          case rel => exact ⟨k + 1, ro2, rc2, by omega, by go_num, rfl, owns_eq hrow2 HSTT.out, below_push hb hbs hg2 (fun a ha => (owns_lt hrow a ha).1)⟩
          case measure => simp [intOf]; omega
    · obtain rfl : k = wideB p := by omega
      rw [HBD.out] at hrow
      go_wp2
      go_ret
      exact ⟨_, _, rfl, hrow, hb⟩

def turnB (p : List ByteArray) : List ByteArray := matB (wideB p) p.length (fun k t => byteAt p (p.length - 1 - t) k)

set_option maxHeartbeats 1000000 in
theorem l1Turn_any (ao : Option Addr) (cap : Nat) (p : List ByteArray) (w : World) (h1 : 1 ≤ p.length) (hl : p.length ≤ 6) (hw : wideB p ≤ 6) (he : Even p)
    (hc : CellsAt w ao (p.map Value.string)) :
    Calls Try.prog 99 #[.slice ao p.length cap] w
      fun e w' => ∃ ro rc, e = .returned (.slice ro (wideB p) rc) ∧ w'.ownsRow w.heap.size 9 1 (.slice ro (wideB p) rc) (wideB p) ((namesB (turnB p)).map Value.string) ∧ Below w.heap.size w w' := by
  have HNA := Lib.hid (fun (ao : Option Addr) (cap : Nat) (w : World) => l1Names_any ao cap (turnB p) w (by unfold turnB; rw [matB_len]; exact hw) (fun s hs => by unfold turnB at hs; rw [matB_size s hs]; exact hl))
  obtain ⟨ib, hbi, hbz, hb1, hb2⟩ := info_parts Try.infoByte
  obtain ⟨it, hti, htz, ht1, ht2⟩ := info_parts Try.infoText
  obtain ⟨b, hbd⟩ : ∃ b, b = (fun k t => byteAt p (p.length - 1 - t) k) := ⟨_, rfl⟩
  have hbe : ∀ k t, k < wideB p → t < p.length → b k t = byteAt p (p.length - 1 - t) k := fun k t hk ht => by subst hbd; rfl
  have HBE := Lib.hid hbe; clear hbe
  have hsz : ∀ i, i < p.length → (p.getD i ByteArray.empty).size = wideB p := he
  have HSZ := Lib.hid hsz; clear hsz he
  have HBD := Lib.hid hbd; clear hbd
  have HC := Lib.hid hc
  obtain ⟨b0, off0, ha0, hc0⟩ := hc.str 0 (by omega)
  subst ha0
  rw [Nat.add_zero] at hc0
  have hs0 : (p.getD 0 ByteArray.empty).size = wideB p := rfl
  generalize p.getD 0 ByteArray.empty = s0 at *
  have hp0 : 0 < p.length := h1
  clear hc
  go_enter Try.func99, Try.ntmps99
  go_wp2
  have hW1 := below_alloc w (.cells #[] 9)
  have hr1 : (w.alloc (.cells #[] 9)).ownsRow w.heap.size 9 1 (.slice (some ⟨w.heap.size, 0, none⟩) 0 0) 0 ((matB 0 (p.length) b).map Value.string) := World.ownsRow_made w #[] 0 (Nat.le_refl _) (Nat.zero_le _) rfl
  go_loopw [3, 4] (fun vo vk wr => ∃ (k : Nat) (ro : Option Addr) (rc : Nat), k ≤ wideB p ∧ vk = .int .i64 k ∧ vo = .slice ro k rc ∧ wr.ownsRow w.heap.size 9 1 (.slice ro k rc) k ((matB k (p.length) b).map Value.string) ∧ Below w.heap.size w wr) (fun _ k _ => wideB p - (intOf k).toNat)
  case atStart => exact ⟨0, _, _, Nat.zero_le _, rfl, rfl, hr1, hW1⟩
  case round =>
    clear hr1 hW1
    obtain ⟨k, ro, rc, hk, rfl, rfl, hrow, hb⟩ := hrel
    have hbs := hb.size
    have hc0r := cell_below hc0 hb
    by_cases hlt : k < wideB p
    · go_wp2
      go_loopw [5, 6] (fun vr vi wm => ∃ (t : Nat) (so : Option Addr) (sc : Nat), t ≤ p.length ∧ vi = .int .i64 ((p.length : Int) - 1 - (t : Int)) ∧ vr = .slice so t sc ∧ wm.ownsRow w.heap.size 5 1 (.slice so t sc) t ((rowM t b k).map byteV) ∧
          wm.ownsRow w.heap.size 9 1 (.slice ro k rc) k ((matB k (p.length) b).map Value.string) ∧ Apart so ro ∧ Below w.heap.size w wm) (fun _ vi _ => (intOf vi + 1).toNat)
      case atStart => exact ⟨0, _, 0, Nat.zero_le _, by simp, rfl, World.ownsRow_made wr #[] 0 hbs (Nat.zero_le _) rfl, hrow.alloc _, (Apart.fresh (fun a ha => (owns_lt hrow a ha).2) (Nat.le_refl _) 0 none).symm, hb.alloc hbs _⟩
      case round =>
        clear hrow hb hbs hc0r
        obtain ⟨t, so, sc, ht, rfl, rfl, hnam, hrow, hap, hb⟩ := hrel
        have hbs := hb.size
        by_cases htl : t < p.length
        · obtain ⟨i, hi⟩ : ∃ i, i = p.length - 1 - t := ⟨_, rfl⟩
          have hie : (p.length : Int) - 1 - (t : Int) = (i : Int) := by omega
          have HIE := Lib.hid hie
          rw [hie]
          have hbv : b k t = byteAt p i k := by rw [HBE.out k t hlt htl, hi]
          have hrl : i < p.length := by omega
          have hcl : k < wideB p := by omega
          have HI0 := Lib.hid hi; clear hi hie
          obtain ⟨b2, off2, ha2, hc2⟩ := (HC.out.below hb).str i hrl
          simp only [Option.some.injEq, Addr.mk.injEq, and_true] at ha2
          obtain ⟨rfl, rfl⟩ := ha2
          have hcs : k < (p.getD i ByteArray.empty).size := by rw [HSZ.out i hrl]; omega
          have hidx := at_list (p.getD i ByteArray.empty) k hcs
          unfold byteAt at hbv
          have HBV := Lib.hid hbv; clear hbv
          have HRS := Lib.hid (rowM_succ t b k)
          have hb1' : t + 1 ≤ maxLen := by unfold maxLen; omega
          have hb2' : (t + 1) * 1 ≤ 140737488355328 := by omega
          have HEL := Lib.hid (byte_elem (b k t) (rowM t b k))
          generalize hgd : (p.getD i ByteArray.empty).data.toList.getD k 0 = c at *
          generalize p.getD i ByteArray.empty = s at *
          clear hgd
          go_wp2_with (at_builtin; refine wpList_push _ rfl (.tmp 24) (.tmp 31) 22 rfl w.heap.size 5 ib (.int .u8 0) 1 Try.underlying22 hbi hbz hb1 hb2 rfl so t sc _ rfl (hnam.alloc _) _ _ _ rfl (cell_new _ _ _) rfl hb1' hb2' (by simp; omega) ?_; intro so2 sc2 w2 hnam2 hg2 hnew2)
          have hlt3 := owns_lt hrow
          have hnm : (rowM t b k).map byteV ++ [Value.int .u8 (c.toNat : Int)] = (rowM (t + 1) b k).map byteV := by rw [HRS.out, ← HEL.out, HBV.out]
          have HNM := Lib.hid hnm; clear hnm
          go_roundw
          case rel => exact ⟨t + 1, so2, sc2, by omega, by have := HIE.out; go_num, rfl, owns_eq hnam2 HNM.out, owns_push_other hrow hg2 hap.symm, apart_push hap hnew2 (fun a ha => (hlt3 a ha).2), below_push hb hbs hg2 (fun a ha => (owns_lt hnam a ha).1)⟩
          case measure => first | (simp [intOf]; omega) | simp [intOf]
        · obtain rfl : t = p.length := by omega
          have HST := Lib.hid (matB_succ k (p.length) b)
          have hst : (matB k (p.length) b).map Value.string ++ [.string ⟨(rowM (p.length) b k).toArray⟩] = (matB (k + 1) (p.length) b).map Value.string := by rw [HST.out, List.map_append]; rfl
          have HSTT := Lib.hid hst; clear hst
          have hb1' : k + 1 ≤ maxLen := by unfold maxLen; omega
          have hb2' : (k + 1) * 16 ≤ 140737488355328 := by omega
          have hneg : (p.length : Int) - 1 - (p.length : Int) = -1 := by omega
          rw [hneg]
          go_wp2_with (first
            | (at_builtin; refine wpList_push _ rfl (.tmp 33) (.tmp 36) 23 rfl w.heap.size 9 it (.string ⟨#[]⟩) 16 Try.underlying23 hti htz ht1 ht2 rfl ro k rc _ rfl (hrow.alloc _) _ _ _ rfl (cell_new _ _ _) rfl hb1' hb2' (by simp; omega) ?_; intro ro2 rc2 w2 hrow2 hg2 hnew2)
            | (refine wpList_str_of_bytes _ rfl 22 9 5 _ rfl Try.underlying22 Try.underlying5 Try.underlying9 so (p.length) sc rfl (rowM (p.length) b k) (rowM_len _ _ _) (owns_cells hnam) ?_))
          go_roundw
          case rel => exact ⟨k + 1, ro2, rc2, by omega, by go_num, rfl, owns_eq hrow2 HSTT.out, below_push hb hbs hg2 (fun a ha => (owns_lt hrow a ha).1)⟩
          case measure => simp [intOf]; omega
    · obtain rfl : k = wideB p := by omega
      rw [HBD.out] at hrow
      have hln : (turnB p).length = wideB p := by unfold turnB; rw [matB_len]
      have HNA2 := Lib.hid (HNA.out ro rc wr (owns_cells hrow))
      rw [hln] at HNA2
      go_wp2_with (go_at_call 80; refine (HNA2.out).mono ?_; rintro e w2 ⟨ro2, rc2, rfl, hown2, hb2⟩)
      go_ret
      exact ⟨ro2, rc2, rfl, ownsRow_base hown2 hbs, below_step hb hbs hb2⟩

def flipB (p : List ByteArray) : List ByteArray := matB p.length (wideB p) (fun k t => byteAt p k (wideB p - 1 - t))

set_option maxHeartbeats 1000000 in
theorem l1Flip_any (ao : Option Addr) (cap : Nat) (p : List ByteArray) (w : World) (hl : p.length ≤ 6) (hw : wideB p ≤ 6) (he : Even p)
    (hc : CellsAt w ao (p.map Value.string)) :
    Calls Try.prog 100 #[.slice ao p.length cap] w
      fun e w' => ∃ ro rc, e = .returned (.slice ro p.length rc) ∧ w'.ownsRow w.heap.size 9 1 (.slice ro p.length rc) p.length ((namesB (flipB p)).map Value.string) ∧ Below w.heap.size w w' := by
  have HNA := Lib.hid (fun (ao : Option Addr) (cap : Nat) (w : World) => l1Names_any ao cap (flipB p) w (by unfold flipB; rw [matB_len]; exact hl) (fun s hs => by unfold flipB at hs; rw [matB_size s hs]; exact hw))
  obtain ⟨ib, hbi, hbz, hb1, hb2⟩ := info_parts Try.infoByte
  obtain ⟨it, hti, htz, ht1, ht2⟩ := info_parts Try.infoText
  obtain ⟨b, hbd⟩ : ∃ b, b = (fun k t => byteAt p k (wideB p - 1 - t)) := ⟨_, rfl⟩
  have hbe : ∀ k t, k < p.length → t < wideB p → b k t = byteAt p k (wideB p - 1 - t) := fun k t hk ht => by subst hbd; rfl
  have HBE := Lib.hid hbe; clear hbe
  have hsz : ∀ i, i < p.length → (p.getD i ByteArray.empty).size = wideB p := he
  have HSZ := Lib.hid hsz; clear hsz he
  have HBD := Lib.hid hbd; clear hbd
  have HC := Lib.hid hc
  clear hc
  go_enter Try.func100, Try.ntmps100
  go_wp2
  have hW1 := below_alloc w (.cells #[] 9)
  have hr1 : (w.alloc (.cells #[] 9)).ownsRow w.heap.size 9 1 (.slice (some ⟨w.heap.size, 0, none⟩) 0 0) 0 ((matB 0 (wideB p) b).map Value.string) := World.ownsRow_made w #[] 0 (Nat.le_refl _) (Nat.zero_le _) rfl
  go_loopw [3, 4] (fun vo vk wr => ∃ (k : Nat) (ro : Option Addr) (rc : Nat), k ≤ p.length ∧ vk = .int .i64 k ∧ vo = .slice ro k rc ∧ wr.ownsRow w.heap.size 9 1 (.slice ro k rc) k ((matB k (wideB p) b).map Value.string) ∧ Below w.heap.size w wr) (fun _ k _ => p.length - (intOf k).toNat)
  case atStart => exact ⟨0, _, _, Nat.zero_le _, rfl, rfl, hr1, hW1⟩
  case round =>
    clear hr1 hW1
    obtain ⟨k, ro, rc, hk, rfl, rfl, hrow, hb⟩ := hrel
    have hbs := hb.size
    by_cases hlt : k < p.length
    · obtain ⟨b', off', ha', hck⟩ := (HC.out.below hb).str k hlt
      subst ha'
      have hsk := HSZ.out k hlt
      generalize p.getD k ByteArray.empty = sk at *
      have hck2 := cell_below hck (below_alloc wr (.cells #[] 5))
      go_wp2
      go_loopw [5, 6] (fun vr vi wm => ∃ (t : Nat) (so : Option Addr) (sc : Nat), t ≤ wideB p ∧ vi = .int .i64 ((wideB p : Int) - 1 - (t : Int)) ∧ vr = .slice so t sc ∧ wm.ownsRow w.heap.size 5 1 (.slice so t sc) t ((rowM t b k).map byteV) ∧
          wm.ownsRow w.heap.size 9 1 (.slice ro k rc) k ((matB k (wideB p) b).map Value.string) ∧ Apart so ro ∧ Below w.heap.size w wm) (fun _ vi _ => (intOf vi + 1).toNat)
      case atStart => exact ⟨0, _, 0, Nat.zero_le _, by simp, rfl, World.ownsRow_made wr #[] 0 hbs (Nat.zero_le _) rfl, hrow.alloc _, (Apart.fresh (fun a ha => (owns_lt hrow a ha).2) (Nat.le_refl _) 0 none).symm, hb.alloc hbs _⟩
      case round =>
        clear hrow hb hbs hck hck2
        obtain ⟨t, so, sc, ht, rfl, rfl, hnam, hrow, hap, hb⟩ := hrel
        have hbs := hb.size
        by_cases htl : t < wideB p
        · obtain ⟨i, hi⟩ : ∃ i, i = wideB p - 1 - t := ⟨_, rfl⟩
          have hie : (wideB p : Int) - 1 - (t : Int) = (i : Int) := by omega
          have HIE := Lib.hid hie
          rw [hie]
          have hbv : b k t = byteAt p k i := by rw [HBE.out k t hlt htl, hi]
          have hrl : k < p.length := by omega
          have hcl : i < wideB p := by omega
          have HI0 := Lib.hid hi; clear hi hie
          obtain ⟨b2, off2, ha2, hc2⟩ := (HC.out.below hb).str k hrl
          simp only [Option.some.injEq, Addr.mk.injEq, and_true] at ha2
          obtain ⟨rfl, rfl⟩ := ha2
          have hcs : i < (p.getD k ByteArray.empty).size := by rw [HSZ.out k hrl]; omega
          have hidx := at_list (p.getD k ByteArray.empty) i hcs
          unfold byteAt at hbv
          have HBV := Lib.hid hbv; clear hbv
          have HRS := Lib.hid (rowM_succ t b k)
          have hb1' : t + 1 ≤ maxLen := by unfold maxLen; omega
          have hb2' : (t + 1) * 1 ≤ 140737488355328 := by omega
          have HEL := Lib.hid (byte_elem (b k t) (rowM t b k))
          generalize hgd : (p.getD k ByteArray.empty).data.toList.getD i 0 = c at *
          generalize p.getD k ByteArray.empty = s at *
          clear hgd
          go_wp2_with (at_builtin; refine wpList_push _ rfl (.tmp 25) (.tmp 32) 22 rfl w.heap.size 5 ib (.int .u8 0) 1 Try.underlying22 hbi hbz hb1 hb2 rfl so t sc _ rfl (hnam.alloc _) _ _ _ rfl (cell_new _ _ _) rfl hb1' hb2' (by simp; omega) ?_; intro so2 sc2 w2 hnam2 hg2 hnew2)
          have hlt3 := owns_lt hrow
          have hnm : (rowM t b k).map byteV ++ [Value.int .u8 (c.toNat : Int)] = (rowM (t + 1) b k).map byteV := by rw [HRS.out, ← HEL.out, HBV.out]
          have HNM := Lib.hid hnm; clear hnm
          go_roundw
          case rel => exact ⟨t + 1, so2, sc2, by omega, by have := HIE.out; go_num, rfl, owns_eq hnam2 HNM.out, owns_push_other hrow hg2 hap.symm, apart_push hap hnew2 (fun a ha => (hlt3 a ha).2), below_push hb hbs hg2 (fun a ha => (owns_lt hnam a ha).1)⟩
          case measure => first | (simp [intOf]; omega) | simp [intOf]
        · obtain rfl : t = wideB p := by omega
          have HST := Lib.hid (matB_succ k (wideB p) b)
          have hst : (matB k (wideB p) b).map Value.string ++ [.string ⟨(rowM (wideB p) b k).toArray⟩] = (matB (k + 1) (wideB p) b).map Value.string := by rw [HST.out, List.map_append]; rfl
          have HSTT := Lib.hid hst; clear hst
          have hb1' : k + 1 ≤ maxLen := by unfold maxLen; omega
          have hb2' : (k + 1) * 16 ≤ 140737488355328 := by omega
          have hneg : (wideB p : Int) - 1 - (wideB p : Int) = -1 := by omega
          rw [hneg]
          go_wp2_with (first
            | (at_builtin; refine wpList_push _ rfl (.tmp 34) (.tmp 37) 23 rfl w.heap.size 9 it (.string ⟨#[]⟩) 16 Try.underlying23 hti htz ht1 ht2 rfl ro k rc _ rfl (hrow.alloc _) _ _ _ rfl (cell_new _ _ _) rfl hb1' hb2' (by simp; omega) ?_; intro ro2 rc2 w2 hrow2 hg2 hnew2)
            | (refine wpList_str_of_bytes _ rfl 22 9 5 _ rfl Try.underlying22 Try.underlying5 Try.underlying9 so (wideB p) sc rfl (rowM (wideB p) b k) (rowM_len _ _ _) (owns_cells hnam) ?_))
          go_roundw
          case rel => exact ⟨k + 1, ro2, rc2, by omega, by go_num, rfl, owns_eq hrow2 HSTT.out, below_push hb hbs hg2 (fun a ha => (owns_lt hrow a ha).1)⟩
          case measure => simp [intOf]; omega
    · obtain rfl : k = p.length := by omega
      rw [HBD.out] at hrow
      have hln : (flipB p).length = p.length := by unfold flipB; rw [matB_len]
      have HNA2 := Lib.hid (HNA.out ro rc wr (owns_cells hrow))
      rw [hln] at HNA2
      go_wp2_with (go_at_call 80; refine (HNA2.out).mono ?_; rintro e w2 ⟨ro2, rc2, rfl, hown2, hb2⟩)
      go_ret
      exact ⟨ro2, rc2, rfl, ownsRow_base hown2 hbs, below_step hb hbs hb2⟩

end Go.Proofs.Ytdhnklaflbaeeaa
