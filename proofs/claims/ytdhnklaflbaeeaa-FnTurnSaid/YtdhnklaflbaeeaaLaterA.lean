
/-
  The model calls rooms by letters further on. (Walk.)
-/
import Derived.Test.YtdhnklaflbaeeaaMathG
namespace Go.Proofs.Ytdhnklaflbaeeaa
open Go.RowKit

/-- texts whose rooms are called by letters nine further on -/
def laterB (p : List ByteArray) : List ByteArray := rowsT p.length (wideB p) (fun i j => 9 + markN p i j)

set_option maxHeartbeats 1000000 in
theorem l1Later_any (ao : Option Addr) (cap : Nat) (p : List ByteArray) (w : World) (hp : GridP p) (hm : ∀ i j, i < p.length → j < wideB p → markN p i j ≤ 9) (hc : CellsAt w ao (p.map Value.string)) :
    Calls Try.prog 90 #[.slice ao p.length cap, .int .i64 9] w
      fun e w' => ∃ ro rc, e = .returned (.slice ro p.length rc) ∧ w'.ownsRow w.heap.size 9 1 (.slice ro p.length rc) p.length ((laterB p).map Value.string) ∧ Below w.heap.size w w' := by
  obtain ⟨ib, hbi, hbz, hb1, hb2⟩ := info_parts Try.infoByte
  obtain ⟨it, hti, htz, ht1, ht2⟩ := info_parts Try.infoText
  have h1 := hp.h1; have hl := hp.h6; have hw := hp.w6
  obtain ⟨b, hbd⟩ : ∃ b : Nat → Nat → UInt8, b = fun i j => UInt8.ofNat (97 + (9 + markN p i j)) := ⟨_, rfl⟩
  have hlat : laterB p = matB p.length (wideB p) b := by rw [hbd]; rfl
  have hbe : ∀ k t, k < p.length → t < wideB p → ((byteAt p k t).toNat + 9 : Nat) = (b k t).toNat ∧ (byteAt p k t).toNat ≤ 106 := fun k t hk ht => by
    have h1 := (hp.byte hk ht).1
    have h2 := hm k t hk ht
    rw [hbd]
    simp only [UInt8.toNat_ofNat']
    rw [Nat.mod_eq_of_lt (by omega)]
    omega
  have HBE := Lib.hid hbe; clear hbe
  have hsz : ∀ i, i < p.length → (p.getD i ByteArray.empty).size = wideB p := hp.even
  have HSZ := Lib.hid hsz; clear hsz hp hm
  have HBD := Lib.hid hlat; clear hbd hlat
  have HC := Lib.hid hc
  clear hc
  go_enter Try.func90, Try.ntmps90
  go_wp2
  have hW1 := below_alloc w (.cells #[] 9)
  have hr1 : (w.alloc (.cells #[] 9)).ownsRow w.heap.size 9 1 (.slice (some ⟨w.heap.size, 0, none⟩) 0 0) 0 ((matB 0 (wideB p) b).map Value.string) := World.ownsRow_made w #[] 0 (Nat.le_refl _) (Nat.zero_le _) rfl
  go_loopw [5, 6] (fun vo vk wr => ∃ (k : Nat) (ro : Option Addr) (rc : Nat), k ≤ p.length ∧ vk = .int .i64 k ∧ vo = .slice ro k rc ∧ wr.ownsRow w.heap.size 9 1 (.slice ro k rc) k ((matB k (wideB p) b).map Value.string) ∧ Below w.heap.size w wr) (fun _ k _ => p.length - (intOf k).toNat)
  case atStart => exact ⟨0, _, _, Nat.zero_le _, rfl, rfl, hr1, hW1⟩
  case round =>
    clear hr1 hW1
    obtain ⟨k, ro, rc, hk, rfl, rfl, hrow, hb⟩ := hrel
    have hbs := hb.size
    by_cases hlt : k < p.length
    · go_wp2
      go_loopw [7, 8] (fun vr vi wm => ∃ (t : Nat) (so : Option Addr) (sc : Nat), t ≤ wideB p ∧ vi = .int .i64 (t : Int) ∧ vr = .slice so t sc ∧ wm.ownsRow w.heap.size 5 1 (.slice so t sc) t ((rowM t b k).map byteV) ∧
          wm.ownsRow w.heap.size 9 1 (.slice ro k rc) k ((matB k (wideB p) b).map Value.string) ∧ Apart so ro ∧ Below w.heap.size w wm) (fun _ vi _ => wideB p - (intOf vi).toNat)
      case atStart => exact ⟨0, _, 0, Nat.zero_le _, rfl, rfl, World.ownsRow_made wr #[] 0 hbs (Nat.zero_le _) rfl, hrow.alloc _, (Apart.fresh (fun a ha => (owns_lt hrow a ha).2) (Nat.le_refl _) 0 none).symm, hb.alloc hbs _⟩
      case round =>
        clear hrow hb hbs
        obtain ⟨t, so, sc, ht, rfl, rfl, hnam, hrow, hap, hb⟩ := hrel
        have hbs := hb.size
        obtain ⟨b2, off2, ha2, hc2⟩ := (HC.out.below hb).str k hlt
        subst ha2
        have hss := HSZ.out k hlt
        by_cases htl : t < wideB p
        · obtain ⟨hbv, hb106⟩ := HBE.out k t hlt htl
          have hcs : t < (p.getD k ByteArray.empty).size := by rw [hss]; exact htl
          have hidx := at_list (p.getD k ByteArray.empty) t hcs
          unfold byteAt at hbv hb106
          have HRS := Lib.hid (rowM_succ t b k)
          have hb1' : t + 1 ≤ maxLen := by unfold maxLen; omega
          have hb2' : (t + 1) * 1 ≤ 140737488355328 := by omega
          have HEL := Lib.hid (byte_elem (b k t) (rowM t b k))
          generalize hgd : (p.getD k ByteArray.empty).data.toList.getD t 0 = c at *
          generalize p.getD k ByteArray.empty = s at *
          have HBV := Lib.hid hbv
          clear hgd hbv hss
          go_wp2_with (at_builtin; refine wpList_push _ rfl (.tmp 26) (.tmp 37) 22 rfl w.heap.size 5 ib (.int .u8 0) 1 Try.underlying22 hbi hbz hb1 hb2 rfl so t sc _ rfl (hnam.alloc _) _ _ _ rfl (cell_new _ _ _) rfl hb1' hb2' (by simp; omega) ?_; intro so2 sc2 w2 hnam2 hg2 hnew2)
          have hlt3 := owns_lt hrow
          have hnm : (rowM t b k).map byteV ++ [Value.int .u8 ((c.toNat : Int) + 9)] = (rowM (t + 1) b k).map byteV := by rw [HRS.out, ← HEL.out, show (c.toNat : Int) + 9 = ((b k t).toNat : Int) by have := HBV.out; omega]
          have HNM := Lib.hid hnm; clear hnm
          go_roundw
          case rel => exact ⟨t + 1, so2, sc2, by omega, by go_num, rfl, owns_eq hnam2 HNM.out, owns_push_other hrow hg2 hap.symm, apart_push hap hnew2 (fun a ha => (hlt3 a ha).2), below_push hb hbs hg2 (fun a ha => (owns_lt hnam a ha).1)⟩
          case measure => first | (simp [intOf]; omega) | simp [intOf]
        · obtain rfl : t = wideB p := by omega
          have HST := Lib.hid (matB_succ k (wideB p) b)
          have hst : (matB k (wideB p) b).map Value.string ++ [.string ⟨(rowM (wideB p) b k).toArray⟩] = (matB (k + 1) (wideB p) b).map Value.string := by rw [HST.out, List.map_append]; rfl
          have HSTT := Lib.hid hst; clear hst
          have hb1' : k + 1 ≤ maxLen := by unfold maxLen; omega
          have hb2' : (k + 1) * 16 ≤ 140737488355328 := by omega
          generalize p.getD k ByteArray.empty = s at *
          go_wp2_with (first
            | (at_builtin; refine wpList_push _ rfl (.tmp 39) (.tmp 42) 23 rfl w.heap.size 9 it (.string ⟨#[]⟩) 16 Try.underlying23 hti htz ht1 ht2 rfl ro k rc _ rfl (hrow.alloc _) _ _ _ rfl (cell_new _ _ _) rfl hb1' hb2' (by simp; omega) ?_; intro ro2 rc2 w2 hrow2 hg2 hnew2)
            | (refine wpList_str_of_bytes _ rfl 22 9 5 _ rfl Try.underlying22 Try.underlying5 Try.underlying9 so (wideB p) sc rfl (rowM (wideB p) b k) (rowM_len _ _ _) (owns_cells hnam) ?_))
          go_roundw
          case rel => exact ⟨k + 1, ro2, rc2, by omega, by go_num, rfl, owns_eq hrow2 HSTT.out, below_push hb hbs hg2 (fun a ha => (owns_lt hrow a ha).1)⟩
          case measure => simp [intOf]; omega
    · obtain rfl : k = p.length := by omega
      rw [← HBD.out] at hrow
      go_wp2
      go_ret
      exact ⟨_, _, rfl, hrow, hb⟩

end Go.Proofs.Ytdhnklaflbaeeaa
