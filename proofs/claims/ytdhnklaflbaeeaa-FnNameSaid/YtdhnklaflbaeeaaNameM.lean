/-
  Texts with letters further on: what they look like; a draw. (Walks.)
-/
import Derived.Test.YtdhnklaflbaeeaaDraw
import Derived.Test.YtdhnklaflbaeeaaImplI
namespace Go.Proofs.Ytdhnklaflbaeeaa
open Go.RowKit

theorem u8_wrap (n : Int) : ∃ u : UInt8, n % 256 = (u.toNat : Int) := by
  refine ⟨UInt8.ofNat (n % 256).toNat, ?_⟩
  rw [UInt8.toNat_ofNat']
  omega

set_option maxRecDepth 100000 in
set_option maxHeartbeats 2000000 in
theorem later_any (ao : Option Addr) (cap K : Nat) (p : List ByteArray) (w : World) (hp : Smp p) (_hK : K ≤ 100) (hc : CellsAt w ao (p.map Value.string)) :
    Calls Try.prog 90 #[.slice ao p.length cap, .int .i64 (K : Nat)] w
      fun e w' => ∃ ro rc l, Smp l ∧ e = .returned (.slice ro l.length rc) ∧ w'.ownsRow w.heap.size 9 1 (.slice ro l.length rc) l.length (l.map Value.string) ∧ Below w.heap.size w w' := by
  obtain ⟨ib, hbi, hbz, hb1, hb2⟩ := info_parts Try.infoByte
  obtain ⟨it, hti, htz, ht1, ht2⟩ := info_parts Try.infoText
  have HC := Lib.hid hc; clear hc
  have h8 := hp.2.1; have h1 := hp.1
  have HSZ := Lib.hid (fun i (hi : i < p.length) => hp.2.2 _ (getD_mem ByteArray.empty hi))
  clear hp
  go_enter Try.func90, Try.ntmps90
  go_wp2
  have hW1 := below_alloc w (.cells #[] 9)
  have hr1 : (w.alloc (.cells #[] 9)).ownsRow w.heap.size 9 1 (.slice (some ⟨w.heap.size, 0, none⟩) 0 0) 0 (([] : List ByteArray).map Value.string) := World.ownsRow_made w #[] 0 (Nat.le_refl _) (Nat.zero_le _) rfl
  go_loopw [5, 6] (fun vo vk wr => ∃ (k : Nat) (ro : Option Addr) (rc : Nat) (l : List ByteArray), k ≤ p.length ∧ vk = .int .i64 k ∧ vo = .slice ro k rc ∧ l.length = k ∧ Hid (∀ s ∈ l, s.size ≤ 9) ∧ wr.ownsRow w.heap.size 9 1 (.slice ro k rc) k (l.map Value.string) ∧ Below w.heap.size w wr) (fun _ k _ => p.length - (intOf k).toNat)
  case atStart => exact ⟨0, _, _, [], Nat.zero_le _, rfl, rfl, rfl, Lib.hid (fun s hs => by cases hs), hr1, hW1⟩
  case round =>
    clear hr1 hW1
    obtain ⟨k, ro, rc, l, hk, rfl, rfl, hlk, hsm, hrow, hb⟩ := hrel
    have HLK := Lib.hid hlk; clear hlk
    have hbs := hb.size
    by_cases hlt : k < p.length
    · have hlt' : decide ((k : Int) < (p.length : Int)) = true := by rw [decide_eq_true_eq]; omega
      have hs9 := HSZ.out k hlt
      go_wp2
      go_loopw [7, 8] (fun vr vi wm => ∃ (t : Nat) (so : Option Addr) (sc : Nat) (c : List UInt8), t ≤ (p.getD k ByteArray.empty).size ∧ Hid (c.length = t) ∧ vi = .int .i64 (t : Nat) ∧ vr = .slice so t sc ∧ wm.ownsRow w.heap.size 5 1 (.slice so t sc) t (c.map byteV) ∧
          wm.ownsRow w.heap.size 9 1 (.slice ro k rc) k (l.map Value.string) ∧ Apart so ro ∧ Below w.heap.size w wm) (fun _ vi _ => (p.getD k ByteArray.empty).size - (intOf vi).toNat)
      case atStart => exact ⟨0, _, 0, [], Nat.zero_le _, Lib.hid rfl, rfl, rfl, World.ownsRow_made wr #[] 0 hbs (Nat.zero_le _) rfl, hrow.alloc _, (Apart.fresh (fun a ha => (owns_lt hrow a ha).2) (Nat.le_refl _) 0 none).symm, hb.alloc hbs _⟩
      case round =>
        clear hrow hb hbs
        obtain ⟨t, so, sc, c, ht, hct, rfl, rfl, hnam, hrow, hap, hb⟩ := hrel
        have hbs := hb.size
        obtain ⟨b2, off2, ha2, hc2⟩ := (HC.out.below hb).str k hlt
        subst ha2
        by_cases htl : t < (p.getD k ByteArray.empty).size
        · have htl' : decide ((t : Int) < ((p.getD k ByteArray.empty).size : Int)) = true := by rw [decide_eq_true_eq]; omega
          have hidx := at_list (p.getD k ByteArray.empty) t htl
          have hb1' : t + 1 ≤ maxLen := by unfold maxLen; omega
          have hb2' : (t + 1) * 1 ≤ 140737488355328 := by omega
          generalize hgd : (p.getD k ByteArray.empty).data.toList.getD t 0 = x at *
          generalize p.getD k ByteArray.empty = s at *
          clear hgd
          go_wp2_with (at_builtin; refine wpList_push _ rfl _ _ 22 rfl w.heap.size 5 ib (.int .u8 0) 1 Try.underlying22 hbi hbz hb1 hb2 rfl so t sc _ rfl (hnam.alloc _) _ _ _ rfl (cell_new _ _ _) rfl hb1' hb2' (by simp; omega) ?_; intro so2 sc2 w2 hnam2 hg2 hnew2)
          have hlt3 := owns_lt hrow
          obtain ⟨u, hu⟩ := u8_wrap (wrap64 (wrap64 (x.toNat : Nat) + (K : Nat)))
          have hnm : c.map byteV ++ [Value.int .u8 (wrap64 (wrap64 (x.toNat : Nat) + (K : Nat)) % 256)] = (c ++ [u]).map byteV := by rw [hu, List.map_append]; rfl
          have HNM := Lib.hid hnm; clear hnm hu
          go_roundw
          case rel => exact ⟨t + 1, so2, sc2, c ++ [u], by omega, Lib.hid (by rw [List.length_append, hct.out]; rfl), by go_num, rfl, owns_eq hnam2 HNM.out, owns_push_other hrow hg2 hap.symm, apart_push hap hnew2 (fun a ha => (hlt3 a ha).2), below_push hb hbs hg2 (fun a ha => (owns_lt hnam a ha).1)⟩
          case measure => simp [intOf]; omega
        · obtain ⟨z, hz⟩ : ∃ z, (p.getD k ByteArray.empty).size = z := ⟨_, rfl⟩
          obtain rfl : t = z := by omega
          have htl' : decide ((t : Int) < ((p.getD k ByteArray.empty).size : Int)) = false := by rw [decide_eq_false_iff_not]; omega
          have hst : l.map Value.string ++ [.string ⟨c.toArray⟩] = (l ++ [(⟨c.toArray⟩ : ByteArray)]).map Value.string := by rw [List.map_append]; rfl
          have HSTT := Lib.hid hst; clear hst
          have hb1' : k + 1 ≤ maxLen := by unfold maxLen; omega
          have hb2' : (k + 1) * 16 ≤ 140737488355328 := by omega
          have HSM2 := Lib.hid (show ∀ s ∈ l ++ [(⟨c.toArray⟩ : ByteArray)], s.size ≤ 9 from fun s hs => by
            rcases List.mem_append.1 hs with h | h
            · exact hsm.out s h
            · rw [List.mem_singleton] at h; subst h
              show c.toArray.size ≤ 9
              rw [List.size_toArray, hct.out]; omega)
          generalize p.getD k ByteArray.empty = s at *
          clear hz
          go_wp2_with (first
            | (at_builtin; refine wpList_push _ rfl _ _ 23 rfl w.heap.size 9 it (.string ⟨#[]⟩) 16 Try.underlying23 hti htz ht1 ht2 rfl ro k rc _ rfl (hrow.alloc _) _ _ _ rfl (cell_new _ _ _) rfl hb1' hb2' (by simp; omega) ?_; intro ro2 rc2 w2 hrow2 hg2 hnew2)
            | (refine wpList_str_of_bytes _ rfl 22 9 5 _ rfl Try.underlying22 Try.underlying5 Try.underlying9 so t sc rfl c hct.out (owns_cells hnam) ?_))
          go_roundw
          case rel => exact ⟨k + 1, ro2, rc2, _, by omega, by go_num, rfl, by rw [List.length_append, HLK.out]; rfl, HSM2, owns_eq hrow2 HSTT.out, below_push hb hbs hg2 (fun a ha => (owns_lt hrow a ha).1)⟩
          case measure => simp [intOf]; omega
    · obtain rfl : k = p.length := by omega
      have hlt' : decide ((p.length : Int) < (p.length : Int)) = false := by rw [decide_eq_false_iff_not]; omega
      go_wp2
      go_ret
      exact ⟨ro, rc, l, ⟨by rw [HLK.out]; exact h1, by rw [HLK.out]; exact h8, hsm.out⟩, by rw [HLK.out]; rfl, by rw [HLK.out]; exact hrow, hb⟩

set_option maxRecDepth 100000 in
set_option maxHeartbeats 2000000 in
theorem drawPlanName_any (ao : Option Addr) (cap : Nat) (c : List UInt8) (w : World) (hcap : c.length ≤ cap) (hl : c.length ≤ 1048576) (hc : CellsAt w ao (c.map byteV)) :
    Calls Try.prog 26 #[.slice ao c.length cap] w fun e w' => Drawn w.heap.size e w' ∧ Below w.heap.size w w' := by
  go_enter Try.func26, Try.ntmps26
  go_wp2_with (first
    | (go_at_call 76; refine (l6Open_any _ _ _ _ hcap hl hc).mono ?_; rintro e w1 ⟨rfl, hr1, hb1⟩)
    | (go_at_call 75; refine (l91Some_any 0 w.heap.size 4 4 _ (by omega) (by omega) (by omega) hr1).mono ?_; rintro e w2 ⟨ro, rc, l, hsm, rfl, hla, hr2, hg2⟩; have HS := Lib.hid hsm; have HL2 := Lib.hid hla; have HR2 := Lib.hid hr2; have HB2 := Lib.hid (below_reader hb1 hb1.size hg2); clear hsm hla hr2 hg2 hb1 hr1))
  refine (pick_any 60 w.heap.size 3 _ (by omega) HR2.out).mono ?_
  rintro e w4 ⟨v4, rfl, -, hr4, hg4⟩
  have HL4 := Lib.hid (HL2.out.grown hg4)
  have HB4 := Lib.hid (below_reader HB2.out HB2.out.size hg4)
  clear hg4
  by_cases h0 : v4 = 0
  · subst h0
    go_wp2
    go_ret
    exact ⟨⟨ro, rc, l, HS.out, rfl, HL4.out.1⟩, HB4.out⟩
  · have hd : ((v4 : Int) == 0) = false := by rw [beq_eq_false_iff_ne]; omega
    go_wp2_with fail
    refine (pick_any 61 w.heap.size 9 _ (by omega) hr4).mono ?_
    rintro e w5 ⟨v5, rfl, hv5, hr5, hg5⟩
    have HL5 := Lib.hid (HL4.out.grown hg5)
    have HB5 := Lib.hid (below_reader HB4.out HB4.out.size hg5)
    clear hg5 hr4
    go_wp2_with fail
    refine (pick_any 62 w.heap.size 24 _ (by omega) hr5).mono ?_
    rintro e w6 ⟨v6, rfl, hv6, hr6, hg6⟩
    have HL6 := Lib.hid (HL5.out.grown hg6)
    have HB6 := Lib.hid (below_reader HB5.out HB5.out.size hg6)
    clear hg6 hr5 hr6
    have E := Lib.hid (show (v5 : Int) + (v6 : Int) / 23 * 20 = ((v5 + v6 / 23 * 20 : Nat) : Int) by omega)
    go_wp2_with fail
    rw [E.out]
    refine (later_any ro rc (v5 + v6 / 23 * 20) l _ HS.out (by omega) HL6.out.1).mono ?_
    rintro e w7 ⟨ro7, rc7, l7, hs7, rfl, hown7, hb7⟩
    go_wp2
    go_ret
    exact ⟨⟨ro7, rc7, l7, hs7, rfl, owns_cells hown7⟩, below_step HB6.out HB6.out.size hb7⟩

theorem done_plan' {p : List ByteArray} (h : doneB p = true) : planB (namesB p) = true := by
  unfold doneB at h; rw [Bool.and_eq_true] at h; exact h.2
/-- texts named anew are as many, and as long -/
theorem name_dims {p : List ByteArray} (h : doneB p = true) : planB (namesB p) = true ∧ (namesB p).length = p.length ∧ wideB (namesB p) = wideB p := by
  have h1 := done_plan' h
  refine ⟨h1, namesB_len p, ?_⟩
  have hl : 0 < p.length := by
    have := (planP_of h1).grid.h1
    rw [namesB_len] at this; omega
  unfold wideB namesB
  rw [List.getD_eq_getElem?_getD, List.getD_eq_getElem?_getD, List.getElem?_map, List.getElem?_eq_getElem hl]
  show (namesL _ p[0].data.toList).toArray.size = p[0].data.size
  rw [List.size_toArray]; unfold namesL; rw [List.length_map, Array.length_toList]

end Go.Proofs.Ytdhnklaflbaeeaa
