/-
  Merged texts: SpecB SpecC SpecD.
-/
import Derived.Test.YtpgcpmfemcfoaaaSpecAO
import Derived.Test.YtpgcpmfemcfoaaaRowO
import Derived.Test.YtpgcpmfemcfoaaaNeckO

/-
  The model's letters given anew. (Walk.)
-/
namespace Go.Proofs.Ytpgcpmfemcfoaaa
open Go.RowKit

theorem Try.infoByte : (Try.prog.info? 5).map (fun i => (i.zero, i.size, i.bytes)) = some (some (.int .u8 0), 1, 1) := by kernel_rfl
theorem Try.infoText : (Try.prog.info? 9).map (fun i => (i.zero, i.size, i.bytes)) = some (some (.string ⟨#[]⟩), 1, 16) := by kernel_rfl

set_option maxHeartbeats 1000000 in
theorem l1Names_any (ao : Option Addr) (cap : Nat) (p : List ByteArray) (w : World) (hl : p.length ≤ 6) (hs : ∀ s ∈ p, s.size ≤ 6)
    (hc : CellsAt w ao (p.map Value.string)) :
    Calls Try.prog 118 #[.slice ao p.length cap] w
      fun e w' => ∃ ro rc, e = .returned (.slice ro p.length rc) ∧ w'.ownsRow w.heap.size 9 1 (.slice ro p.length rc) p.length ((namesB p).map Value.string) ∧ Below w.heap.size w w' := by
  obtain ⟨ib, hbi, hbz, hb1, hb2⟩ := info_parts Try.infoByte
  obtain ⟨it, hti, htz, ht1, ht2⟩ := info_parts Try.infoText
  obtain ⟨F, hF⟩ : ∃ F, F = firsts (flat p) := ⟨_, rfl⟩
  have HF := Lib.hid hF; clear hF
  go_enter Try.func118, Try.ntmps118
  go_wp2
  have hW1 : Below w.heap.size w ((w.alloc (.cells #[] 5)).alloc (.cells #[] 9)) := ((Below.refl _ _).alloc (Nat.le_refl _) _).alloc (by simp) _
  have ho1 : ((w.alloc (.cells #[] 5)).alloc (.cells #[] 9)).ownsRow w.heap.size 5 1 (.slice (some ⟨w.heap.size, 0, none⟩) 0 0) 0 (([] : List UInt8).map byteV) := (World.ownsRow_made w #[] 0 (Nat.le_refl _) (Nat.zero_le _) rfl).alloc _
  have hr1 : ((w.alloc (.cells #[] 5)).alloc (.cells #[] 9)).ownsRow w.heap.size 9 1 (.slice (some ⟨w.heap.size + 1, 0, none⟩) 0 0) 0 (([] : List ByteArray).map Value.string) := by
    have := World.ownsRow_made (base := w.heap.size) (e := 9) (size := 1) (w.alloc (.cells #[] 5)) #[] 0 (by simp) (Nat.zero_le _) rfl
    simpa using this
  go_loopw [3, 4, 5] (fun vo vr vi wr => ∃ (i : Nat) (oo ro : Option Addr) (oc rc : Nat), i ≤ p.length ∧ vi = .int .i64 i ∧ vo = .slice oo (firsts (flat (p.take i))).length oc ∧ vr = .slice ro i rc ∧
      wr.ownsRow w.heap.size 5 1 (.slice oo (firsts (flat (p.take i))).length oc) (firsts (flat (p.take i))).length ((firsts (flat (p.take i))).map byteV) ∧
      wr.ownsRow w.heap.size 9 1 (.slice ro i rc) i (((namesB p).take i).map Value.string) ∧ Apart oo ro ∧ Below w.heap.size w wr) (fun _ _ i _ => p.length - (intOf i).toNat)
  case atStart => exact ⟨0, _, _, _, _, Nat.zero_le _, rfl, rfl, rfl, ho1, hr1, (fun a b ha hb => by cases ha; cases hb; simp), hW1⟩
  case round =>
    clear hW1 ho1 hr1
    obtain ⟨i, oo, ro, oc, rc, hi, rfl, rfl, rfl, hown, hrow, hap, hb⟩ := hrel
    have hbs := hb.size
    by_cases hlt : i < p.length
    · have hsz := hs _ (getD_mem ByteArray.empty hlt)
      have HST := Lib.hid (namesB_step p i hlt)
      have HSP := Lib.hid (fun k hk => flat_split p i k hlt hk)
      have HSN := Lib.hid (flat_snoc (p.take i) (p.getD i ByteArray.empty))
      have HTK := Lib.hid (take_succ_getD p i ByteArray.empty hlt)
      have hP : (flat (p.take i)).length ≤ 30 := Nat.le_trans (flat_len (p.take i) 6 (fun t ht => hs t (List.mem_of_mem_take ht))) (by rw [List.length_take]; omega)
      obtain ⟨b, off, rfl, hcw⟩ := hc.str i hlt
      have hck := cell_below hcw hb
      generalize hP0 : flat (p.take i) = P at *
      generalize hs0 : p.getD i ByteArray.empty = s at *
      have HP0 := Lib.hid hP0; have HS0 := Lib.hid hs0
      clear hP0 hs0 hc hs
      have e0 : P ++ s.data.toList.take 0 = P := by simp
      have HE0 := Lib.hid e0; clear e0
      go_wp2
      go_loopw [3, 6, 7, 8] (fun vo vr vk _ wm => ∃ (k : Nat) (oo' so : Option Addr) (oc' sc : Nat), k ≤ s.size ∧ vk = .int .i64 k ∧ vo = .slice oo' (firsts (P ++ s.data.toList.take k)).length oc' ∧ vr = .slice so k sc ∧
          wm.ownsRow w.heap.size 5 1 (.slice oo' (firsts (P ++ s.data.toList.take k)).length oc') (firsts (P ++ s.data.toList.take k)).length ((firsts (P ++ s.data.toList.take k)).map byteV) ∧
          wm.ownsRow w.heap.size 5 1 (.slice so k sc) k ((namesL F (s.data.toList.take k)).map byteV) ∧
          wm.ownsRow w.heap.size 9 1 (.slice ro i rc) i (((namesB p).take i).map Value.string) ∧ Apart oo' ro ∧ Apart oo' so ∧ Apart so ro ∧ Below w.heap.size w wm) (fun _ _ k _ _ => s.size - (intOf k).toNat)
      case atStart =>
        exact ⟨0, oo, _, oc, 0, Nat.zero_le _, rfl, by rw [HE0.out], rfl, by rw [HE0.out]; exact hown.alloc _, World.ownsRow_made wr #[] 0 hbs (Nat.zero_le _) rfl, hrow.alloc _, by exact hap,
          Apart.fresh (fun a ha => (owns_lt hown a ha).2) (Nat.le_refl _) 0 none, (Apart.fresh (fun a ha => (owns_lt hrow a ha).2) (Nat.le_refl _) 0 none).symm, hb.alloc hbs _⟩
      case round =>
        clear hown hrow hap hb hck hbs
        obtain ⟨k, oo', so, oc', sc, hk, rfl, rfl, rfl, hown1, hnam1, hrow1, hap1, hap2, hap3, hb1w⟩ := hrel
        obtain ⟨wm, rfl⟩ : ∃ wm, wm = wr := ⟨_, rfl⟩
        have hbs1 := hb1w.size
        have hck1 := cell_below hcw hb1w
        by_cases hkl : k < s.size
        · have hkl' : k < s.data.toList.length := by rw [size_list]; exact hkl
          have hidx := at_list s k hkl
          have HSPk := Lib.hid (HSP.out k hkl')
          have HNS := Lib.hid (namesL_step F s.data.toList k hkl')
          have HTS := Lib.hid (take_succ_getD s.data.toList k 0 hkl')
          have hPl : (P ++ s.data.toList.take k).length ≤ 36 := by rw [List.length_append, List.length_take]; omega
          have hol := Nat.le_trans (firsts_len (P ++ s.data.toList.take k)) hPl
          have HSN1 := Lib.hid (firsts_snoc (P ++ s.data.toList.take k) (s.data.toList.getD k 0))
          generalize ho0 : firsts (P ++ s.data.toList.take k) = o at *
          have HO := Lib.hid ho0; clear ho0
          generalize hc0 : s.data.toList.getD k 0 = c at *
          clear hc0
          go_wp2
          go_loopw [8] (fun va wq => ∃ (t : Nat), t ≤ o.length ∧ va = .int .i64 t ∧ Quiet wm wq ∧ ∀ j, j < t → o.getD j 0 ≠ c) (fun t _ => o.length - (intOf t).toNat)
          case atStart => exact ⟨0, Nat.zero_le _, rfl, Quiet.refl _, fun j hj => by omega⟩
          case round =>
            obtain ⟨t, ht, rfl, hq, hno⟩ := hrel
            have HNO := Lib.hid hno; clear hno
            have hck2 := cell_below hck1 (hq.below _)
            have hown2 := hq.owns hown1
            by_cases hto : t < o.length
            · obtain ⟨bo, offo, rfl, hco⟩ := (owns_cells hown2).byte t hto
              have HIF := Lib.hid (@idxOf_found _ _ o c 0 t hto HNO.out)
              have HNX := Lib.hid (@rows_step (fun j => o.getD j 0 ≠ c) t HNO.out)
              have HMEM := Lib.hid (getD_mem (l := o) 0 hto)
              generalize o.getD t 0 = d at *
              by_cases hcc : d = c
              · have hne : ((d.toNat : Int) != (c.toNat : Int)) = false := by simp [hcc]
                have HCC := Lib.hid hcc; clear hcc
                have HIDX := Lib.hid (HIF.out HCC.out)
                have hname : F.idxOf c = t := by rw [HF.out, HSPk.out, name_at, HO.out, HIDX.out]
                have hb1' : k + 1 ≤ maxLen := by unfold maxLen; omega
                have hb2' : (k + 1) * 1 ≤ 140737488355328 := by omega
                have HNM := Lib.hid hname; clear hname
                go_wp2
                go_quiet (fail)
                have hq3 := hq.then nq
                generalize wr.drewN nq = wq at *
                have hck3 := cell_below hck1 (hq3.below _)
                have hown3 := hq3.owns hown1
                have hnam3 := hq3.owns hnam1
                have hrow3 := hq3.owns hrow1
                have hb3 := hb1w.trans (hq3.below _)
                have hbs3 := hb3.size
                clear hck1 hown1 hnam1 hrow1 hb1w hbs1 hck2 hown2
                have hte : ((t : Int) == (o.length : Int)) = false := by rw [beq_eq_false_iff_ne]; omega
                go_wp2_with (at_builtin; refine wpList_push _ rfl (.tmp 59) (.tmp 63) 22 rfl w.heap.size 5 ib (.int .u8 0) 1 Try.underlying22 hbi hbz hb1 hb2 rfl so k sc _ rfl (hnam3.alloc _) _ _ _ rfl (cell_new _ _ _) rfl hb1' hb2' (by simp; omega) ?_; intro so2 sc2 w2 hnam4 hg4 hnew4)
                have hfk : firsts (P ++ s.data.toList.take (k + 1)) = o := by
                  rw [HTS.out, ← List.append_assoc, HSN1.out, if_pos (by have h1 := HMEM.out; have h2 := HCC.out; rwa [h2] at h1)]
                have hnk : (namesL F (s.data.toList.take k)).map byteV ++ [Value.int .u8 (97 + (t : Int))] = (namesL F (s.data.toList.take (k + 1))).map byteV := by
                  rw [HNS.out, HNM.out, List.map_append, byteV_of (n := 97 + (t : Int)) (m := 97 + t) (by omega) (by omega)]; rfl
                have HFK := Lib.hid hfk; have HNK := Lib.hid hnk; clear hfk hnk
                have hlt2 := owns_lt hown3
                have hlt3 := owns_lt hrow3
                go_roundw
                case rel => exact ⟨k + 1, _, so2, oc', sc2, by omega, by go_num, by rw [HFK.out], rfl, by rw [HFK.out]; exact owns_push_other hown3 hg4 hap2, owns_eq hnam4 HNK.out, owns_push_other hrow3 hg4 hap3.symm, hap1, (apart_push hap2.symm hnew4 (fun a ha => (hlt2 a ha).2)).symm, apart_push hap3 hnew4 (fun a ha => (hlt3 a ha).2), below_push hb3 hbs3 hg4 (fun a ha => (owns_lt hnam3 a ha).1)⟩
                case measure => simp [intOf]; omega
              · have hne : ((d.toNat : Int) != (c.toNat : Int)) = true := by
                  rw [bne_iff_ne]; intro h; apply hcc; exact UInt8.toNat_inj.1 (by omega)
                have HCC := Lib.hid hcc; clear hcc
                go_wp2
                go_quiet (fail)
                go_wp2
                go_roundw
                case rel => exact ⟨t + 1, by omega, by go_num, hq.then nq, HNX.out HCC.out⟩
                case measure => simp [intOf]; omega
            · obtain rfl : t = o.length := by omega
              have hnm : c ∉ o := not_mem_of (z := 0) HNO.out
              have hname : F.idxOf c = o.length := by rw [HF.out, HSPk.out, name_at, HO.out, idxOf_not_mem hnm]
              have hfk : firsts (P ++ s.data.toList.take (k + 1)) = o ++ [c] := by
                rw [HTS.out, ← List.append_assoc, HSN1.out, if_neg hnm]
              have hnk : (namesL F (s.data.toList.take k)).map byteV ++ [Value.int .u8 (97 + (o.length : Int))] = (namesL F (s.data.toList.take (k + 1))).map byteV := by
                rw [HNS.out, hname, List.map_append, byteV_of (n := 97 + (o.length : Int)) (m := 97 + o.length) (by omega) (by omega)]; rfl
              have hok : o.map byteV ++ [Value.int .u8 (c.toNat : Int)] = (o ++ [c]).map byteV := by simp [byteV]
              have HFK := Lib.hid hfk; have HNK := Lib.hid hnk; have HOK := Lib.hid hok
              clear hfk hnk hok hnm hname
              have hb1' : k + 1 ≤ maxLen := by unfold maxLen; omega
              have hb2' : (k + 1) * 1 ≤ 140737488355328 := by omega
              have hb3' : o.length + 1 ≤ maxLen := by unfold maxLen; omega
              have hb4' : (o.length + 1) * 1 ≤ 140737488355328 := by omega
              have hte : ((o.length : Int) == (o.length : Int)) = true := by simp
              go_wp2
              go_quiet (fail)
              have hq3 := hq.then nq
              generalize wr.drewN nq = wq at *
              have hck3 := cell_below hck1 (hq3.below _)
              have hown3 := hq3.owns hown1
              have hnam3 := hq3.owns hnam1
              have hrow3 := hq3.owns hrow1
              have hb3 := hb1w.trans (hq3.below _)
              have hbs3 := hb3.size
              clear hck1 hown1 hnam1 hrow1 hb1w hbs1 hck2 hown2 hq hq3
              go_wp2_with (first
                | (at_builtin; refine wpList_push _ rfl (.tmp 50) (.tmp 57) 22 rfl w.heap.size 5 ib (.int .u8 0) 1 Try.underlying22 hbi hbz hb1 hb2 rfl oo' o.length oc' _ rfl (hown3.alloc _) _ _ _ rfl (cell_new _ _ _) rfl hb3' hb4' (by simp; omega) ?_; intro oo2 oc2 w1 hown4 hg3 hnew3; have hnam4 := owns_push_other hnam3 hg3 hap2.symm; have hrow4 := owns_push_other hrow3 hg3 hap1.symm; have hb5 := below_push hb3 hbs3 hg3 (fun a ha => (owns_lt hown3 a ha).1); have hbs5 := hb5.size; have hck4 := cell_below hcw hb5; have hap4 := apart_push hap1 hnew3 (fun a ha => (owns_lt hrow3 a ha).2); have hap5 := apart_push hap2 hnew3 (fun a ha => (owns_lt hnam3 a ha).2))
                | (at_builtin; refine wpList_push _ rfl (.tmp 59) (.tmp 63) 22 rfl w.heap.size 5 ib (.int .u8 0) 1 Try.underlying22 hbi hbz hb1 hb2 rfl so k sc _ rfl (hnam4.alloc _) _ _ _ rfl (cell_new _ _ _) rfl hb1' hb2' (by simp; omega) ?_; intro so2 sc2 w2 hnam6 hg4 hnew4))
              have hlt2 := owns_lt hown4
              have hlt3 := owns_lt hrow4
              have hown5 := owns_eq hown4 HOK.out
              have hown6 := owns_push_other hown5 hg4 hap5
              have hlen : (o ++ [c]).length = o.length + 1 := by simp
              rw [← HFK.out] at hown6 hlen
              clear hown5
              have HLEN := Lib.hid hlen; clear hlen
              have hb6 := below_push hb5 hbs5 hg4 (fun a ha => (owns_lt hnam4 a ha).1)
              go_roundw
              case rel => exact ⟨k + 1, oo2, so2, oc2, sc2, by omega, by go_num, by rw [HLEN.out], rfl, by rw [HLEN.out]; exact hown6, owns_eq hnam6 HNK.out, owns_push_other hrow4 hg4 hap3.symm, hap4, (apart_push hap5.symm hnew4 (fun a ha => (hlt2 a ha).2)).symm, apart_push hap3 hnew4 (fun a ha => (hlt3 a ha).2), hb6⟩
              case measure => simp [intOf]; omega
        · obtain rfl : k = s.size := by omega
          have hwh : s.data.toList.take s.size = s.data.toList := List.take_of_length_le (by rw [size_list]; exact Nat.le_refl _)
          rw [hwh] at hown1 hnam1
          have hPs : P ++ s.data.toList = flat (p.take (i + 1)) := by rw [HTK.out, HSN.out]
          have HPS := Lib.hid hPs; have HWH := Lib.hid hwh
          clear hwh hPs
          have hln : (namesL F s.data.toList).length = s.size := by simp only [namesL, List.length_map, size_list]
          have HLN := Lib.hid hln; clear hln
          have hst : ((namesB p).take i).map Value.string ++ [.string ⟨(namesL F s.data.toList).toArray⟩] = ((namesB p).take (i + 1)).map Value.string := by
            rw [HST.out, HF.out, List.map_append]; rfl
          have HSTT := Lib.hid hst; clear hst
          have hb1' : i + 1 ≤ maxLen := by unfold maxLen; omega
          have hb2' : (i + 1) * 16 ≤ 140737488355328 := by omega
          go_wp2_with (first
            | (at_builtin; refine wpList_push _ rfl (.tmp 65) (.tmp 68) 23 rfl w.heap.size 9 it (.string ⟨#[]⟩) 16 Try.underlying23 hti htz ht1 ht2 rfl ro i rc _ rfl (hrow1.alloc _) _ _ _ rfl (cell_new _ _ _) rfl hb1' hb2' (by simp; omega) ?_; intro ro2 rc2 w2 hrow2 hg2 hnew2)
            | (refine wpList_str_of_bytes _ rfl 22 9 5 _ rfl Try.underlying22 Try.underlying5 Try.underlying9 so s.size sc rfl (namesL F s.data.toList) HLN.out (owns_cells hnam1) ?_))
          have hlt2 := owns_lt hown1
          have hown2 := owns_push_other hown1 hg2 hap1
          rw [HPS.out] at hown2
          go_roundw
          case rel => exact ⟨i + 1, oo', ro2, oc', rc2, by omega, by go_num, by rw [HWH.out, HPS.out], rfl, hown2, owns_eq hrow2 HSTT.out, (apart_push hap1.symm hnew2 (fun a ha => (hlt2 a ha).2)).symm, below_push hb1w hbs1 hg2 (fun a ha => (owns_lt hrow1 a ha).1)⟩
          case measure => simp [intOf]; omega
    · obtain rfl : i = p.length := by omega
      have hall : (namesB p).take p.length = namesB p := List.take_of_length_le (by rw [namesB_len]; exact Nat.le_refl _)
      rw [hall] at hrow
      clear hall
      go_wp2
      go_ret
      exact ⟨_, _, rfl, hrow, hb⟩

end Go.Proofs.Ytpgcpmfemcfoaaa

/-
  The model's rooms: how many, where, of how many cells. (Walks.)
-/
namespace Go.Proofs.Ytpgcpmfemcfoaaa
open Go.RowKit

set_option maxHeartbeats 400000 in
theorem l1Rooms_any (ao : Option Addr) (cap : Nat) (p : List ByteArray) (w : World) (hl : p.length ≤ 1048576) (hs : ∀ s ∈ p, s.size ≤ 1048576)
    (hc : CellsAt w ao (p.map Value.string)) :
    Calls Try.prog 56 #[.slice ao p.length cap] w
      fun e w' => e = .returned (.int .i64 (roomsB p)) ∧ w' = w := by
  go_enter Try.func56, Try.ntmps56
  go_wp2
  go_loop [3, 4, 5] (fun vn vi _ => ∃ (i : Nat) (n : Int), i ≤ p.length ∧ vi = .int .i64 i ∧ vn = .int .i64 n ∧ 0 ≤ n ∧ n ≤ 256 ∧ gridFold roomsF i (p.drop i) n = roomsB p) (fun _ i _ => p.length - (intOf i).toNat)
  case atStart => exact ⟨0, 0, Nat.zero_le _, rfl, rfl, by omega, by omega, rfl⟩
  case round =>
    obtain ⟨i, n, hi, rfl, rfl, hn0, hn1, hq⟩ := hrel
    have HQ := Lib.hid hq; clear hq
    by_cases hlt : i < p.length
    · obtain ⟨b, off, rfl, hck⟩ := hc.str i hlt
      have hsz := hs _ (getD_mem ByteArray.empty hlt)
      have HG := Lib.hid (gridFold_step roomsF i p n hlt)
      generalize p.getD i ByteArray.empty = s at *
      clear hs hc
      go_wp2
      go_loop [3, 5] (fun vn vk => ∃ (k : Nat) (m : Int), k ≤ s.size ∧ vk = .int .i64 k ∧ vn = .int .i64 m ∧ 0 ≤ m ∧ m ≤ 256 ∧ rowFold roomsF i k (s.data.toList.drop k) m = rowFold roomsF i 0 s.data.toList n) (fun _ k => s.size - (intOf k).toNat)
      case atStart => exact ⟨0, n, Nat.zero_le _, rfl, rfl, hn0, hn1, rfl⟩
      case round =>
        obtain ⟨k, m, hk, rfl, rfl, hm0, hm1, hr⟩ := hrel
        have HR := Lib.hid hr; clear hr
        by_cases hkl : k < s.size
        · have hkl' : k < s.data.toList.length := by rw [size_list]; exact hkl
          have hidx := at_list s k hkl
          have HS := Lib.hid (rowFold_step roomsF i k s.data.toList m hkl')
          generalize s.data.toList.getD k 0 = c at *
          have hcl := UInt8.toNat_lt c
          by_cases hmx : m < (c.toNat : Int) - 97 + 1
          · have HX := Lib.hid (show roomsF i k c m = (c.toNat : Int) - 97 + 1 from by simp [roomsF, hmx])
            go_wp2
            go_round
            case rel => exact ⟨k + 1, (c.toNat : Int) - 97 + 1, by omega, by go_num, rfl, by omega, by omega, by rw [← HR.out, HS.out, HX.out]⟩
            case measure => simp [intOf]; omega
          · have HX := Lib.hid (show roomsF i k c m = m from by simp [roomsF, hmx])
            go_wp2
            go_round
            case rel => exact ⟨k + 1, m, by omega, by go_num, rfl, by omega, by omega, by rw [← HR.out, HS.out, HX.out]⟩
            case measure => simp [intOf]; omega
        · have HE := Lib.hid (rowFold_end roomsF i k s.data.toList m (by rw [size_list]; exact hkl))
          go_wp2
          go_round
          case rel => exact ⟨i + 1, m, by omega, by go_num, rfl, hm0, hm1, by rw [← HQ.out, HG.out, ← HR.out, HE.out]⟩
          case measure => simp [intOf]; omega
    · have HE := Lib.hid (gridFold_end roomsF i p n hlt)
      go_wp2
      go_ret
      exact ⟨ret_int (by rw [← HQ.out, HE.out]), rfl⟩

theorem cellsF_yes {room : Int} {i k : Nat} {c : UInt8} {n : Int} (h : (c.toNat : Int) - 97 = room) : cellsF room i k c n = n + 1 := if_pos h
theorem cellsF_no {room : Int} {i k : Nat} {c : UInt8} {n : Int} (h : ¬ (c.toNat : Int) - 97 = room) : cellsF room i k c n = n := if_neg h

set_option maxHeartbeats 400000 in
theorem l1Cells_any (ao : Option Addr) (cap : Nat) (p : List ByteArray) (room : Int) (w : World) (hl : p.length ≤ 1048576) (hs : ∀ s ∈ p, s.size ≤ 1048576)
    (hc : CellsAt w ao (p.map Value.string)) :
    Calls Try.prog 120 #[.slice ao p.length cap, .int .i64 room] w
      fun e w' => e = .returned (.int .i64 (cellsB p room)) ∧ w' = w := by
  go_enter Try.func120, Try.ntmps120
  go_wp2
  go_loop [5, 6, 7] (fun vn vi _ => ∃ (i : Nat) (n : Int), i ≤ p.length ∧ vi = .int .i64 i ∧ vn = .int .i64 n ∧ 0 ≤ n ∧ n ≤ i * 1048576 ∧ gridFold (cellsF room) i (p.drop i) n = cellsB p room) (fun _ i _ => p.length - (intOf i).toNat)
  case atStart => exact ⟨0, 0, Nat.zero_le _, rfl, rfl, by omega, by omega, rfl⟩
  case round =>
    obtain ⟨i, n, hi, rfl, rfl, hn0, hn1, hq⟩ := hrel
    have HQ := Lib.hid hq; clear hq
    by_cases hlt : i < p.length
    · obtain ⟨b, off, rfl, hck⟩ := hc.str i hlt
      have hsz := hs _ (getD_mem ByteArray.empty hlt)
      have HG := Lib.hid (gridFold_step (cellsF room) i p n hlt)
      generalize p.getD i ByteArray.empty = s at *
      clear hs hc
      go_wp2
      go_loop [5, 7] (fun vn vk => ∃ (k : Nat) (m : Int), k ≤ s.size ∧ vk = .int .i64 k ∧ vn = .int .i64 m ∧ 0 ≤ m ∧ m ≤ i * 1048576 + k ∧ rowFold (cellsF room) i k (s.data.toList.drop k) m = rowFold (cellsF room) i 0 s.data.toList n) (fun _ k => s.size - (intOf k).toNat)
      case atStart => exact ⟨0, n, Nat.zero_le _, rfl, rfl, hn0, by omega, rfl⟩
      case round =>
        obtain ⟨k, m, hk, rfl, rfl, hm0, hm1, hr⟩ := hrel
        have HR := Lib.hid hr; clear hr
        by_cases hkl : k < s.size
        · have hkl' : k < s.data.toList.length := by rw [size_list]; exact hkl
          have hidx := at_list s k hkl
          have HS := Lib.hid (rowFold_step (cellsF room) i k s.data.toList m hkl')
          generalize s.data.toList.getD k 0 = c at *
          have hcl := UInt8.toNat_lt c
          by_cases hmx : (c.toNat : Int) - 97 = room
          · have HX := Lib.hid (cellsF_yes (i := i) (k := k) (n := m) hmx)
            have hb : (((c.toNat : Int) - 97) == room) = true := by simpa using hmx
            have HMX := Lib.hid hmx; clear hmx
            go_wp2
            go_round
            case rel => exact ⟨k + 1, m + 1, by omega, by go_num, rfl, by omega, by omega, by rw [← HR.out, HS.out, HX.out]⟩
            case measure => simp [intOf]; omega
          · have HX := Lib.hid (cellsF_no (i := i) (k := k) (n := m) hmx)
            have hb : (((c.toNat : Int) - 97) == room) = false := by simpa using hmx
            have HMX := Lib.hid hmx; clear hmx
            go_wp2
            go_round
            case rel => exact ⟨k + 1, m, by omega, by go_num, rfl, by omega, by omega, by rw [← HR.out, HS.out, HX.out]⟩
            case measure => simp [intOf]; omega
        · have HE := Lib.hid (rowFold_end (cellsF room) i k s.data.toList m (by rw [size_list]; exact hkl))
          go_wp2
          go_round
          case rel => exact ⟨i + 1, m, by omega, by go_num, rfl, hm0, by omega, by rw [← HQ.out, HG.out, ← HR.out, HE.out]⟩
          case measure => simp [intOf]; omega
    · have HE := Lib.hid (gridFold_end (cellsF room) i p n hlt)
      go_wp2
      go_ret
      exact ⟨ret_int (by rw [← HQ.out, HE.out]), rfl⟩

theorem boxF_no {room : Int} {i k : Nat} {c : UInt8} {b : Box4} (h : ¬ (c.toNat : Int) - 97 = room) : boxF room i k c b = b := if_neg h
theorem boxF_yes {room : Int} {i k : Nat} {c : UInt8} {t l lo r : Int} (h : (c.toNat : Int) - 97 = room) : boxF room i k c ⟨t, l, lo, r⟩ = ⟨if (i : Int) < t then i else t, if (k : Int) < l then k else l, if lo < (i : Int) then i else lo, if r < (k : Int) then k else r⟩ := if_pos h

set_option maxHeartbeats 800000 in
theorem l1Room_any (ao : Option Addr) (cap : Nat) (p : List ByteArray) (room : Int) (w : World) (h0 : 0 < p.length) (hl : p.length ≤ 1048576) (hs : ∀ s ∈ p, s.size ≤ 1048576)
    (hc : CellsAt w ao (p.map Value.string)) :
    Calls Try.prog 119 #[.slice ao p.length cap, .int .i64 room] w
      fun e w' => e = .returned (.tuple #[.int .i64 (boxB p room).top, .int .i64 (boxB p room).left, .int .i64 ((boxB p room).low - (boxB p room).top + 1), .int .i64 ((boxB p room).right - (boxB p room).left + 1)]) ∧ w' = w := by
  obtain ⟨b, off, rfl, hc0⟩ := hc.str 0 h0
  rw [Nat.add_zero] at hc0
  have hs00 := hs _ (getD_mem ByteArray.empty h0)
  obtain ⟨bb, hbb⟩ : ∃ bb, boxB p room = bb := ⟨_, rfl⟩
  have hbb2 := hbb
  rw [hbb]
  unfold boxB at hbb
  have HBB := Lib.hid hbb; clear hbb hbb2
  generalize p.getD 0 ByteArray.empty = s0 at *
  go_enter Try.func119, Try.ntmps119
  go_wp2
  go_loop [8, 9, 10, 11, 12, 13] (fun vt vl vlo vr vi _ => ∃ (i : Nat) (t l lo r : Int), i ≤ p.length ∧ vi = .int .i64 i ∧ vt = .int .i64 t ∧ vl = .int .i64 l ∧ vlo = .int .i64 lo ∧ vr = .int .i64 r ∧
      0 ≤ t ∧ t ≤ 1048576 ∧ 0 ≤ l ∧ l ≤ 1048576 ∧ -1 ≤ lo ∧ lo ≤ 1048576 ∧ -1 ≤ r ∧ r ≤ 1048576 ∧ gridFold (boxF room) i (p.drop i) ⟨t, l, lo, r⟩ = bb) (fun _ _ _ _ i _ => p.length - (intOf i).toNat)
  case atStart => exact ⟨0, p.length, s0.size, -1, -1, Nat.zero_le _, rfl, rfl, rfl, rfl, rfl, by omega, by omega, by omega, by omega, by omega, by omega, by omega, by omega, HBB.out⟩
  case round =>
    clear HBB
    obtain ⟨i, t, l, lo, r, hi, rfl, rfl, rfl, rfl, rfl, ht0, ht1, hl0, hl1, hlo0, hlo1, hr0, hr1, hq⟩ := hrel
    have HQ := Lib.hid hq; clear hq
    by_cases hlt : i < p.length
    · obtain ⟨b', off', he, hck⟩ := hc.str i hlt
      simp only [Option.some.injEq, Addr.mk.injEq, and_true] at he
      obtain ⟨rfl, rfl⟩ := he
      have hsz := hs _ (getD_mem ByteArray.empty hlt)
      have HG := Lib.hid (gridFold_step (boxF room) i p ⟨t, l, lo, r⟩ hlt)
      generalize p.getD i ByteArray.empty = s at *
      clear hs hc
      go_wp2
      go_loop [8, 9, 10, 11, 13] (fun vt vl vlo vr vk => ∃ (k : Nat) (t' l' lo' r' : Int), k ≤ s.size ∧ vk = .int .i64 k ∧ vt = .int .i64 t' ∧ vl = .int .i64 l' ∧ vlo = .int .i64 lo' ∧ vr = .int .i64 r' ∧
        0 ≤ t' ∧ t' ≤ 1048576 ∧ 0 ≤ l' ∧ l' ≤ 1048576 ∧ -1 ≤ lo' ∧ lo' ≤ 1048576 ∧ -1 ≤ r' ∧ r' ≤ 1048576 ∧ rowFold (boxF room) i k (s.data.toList.drop k) ⟨t', l', lo', r'⟩ = rowFold (boxF room) i 0 s.data.toList ⟨t, l, lo, r⟩) (fun _ _ _ _ k => s.size - (intOf k).toNat)
      case atStart => exact ⟨0, t, l, lo, r, Nat.zero_le _, rfl, rfl, rfl, rfl, rfl, ht0, ht1, hl0, hl1, hlo0, hlo1, hr0, hr1, rfl⟩
      case round =>
        clear ht0 ht1 hl0 hl1 hlo0 hlo1 hr0 hr1
        obtain ⟨k, t', l', lo', r', hk, rfl, rfl, rfl, rfl, rfl, ht0, ht1, hl0, hl1, hlo0, hlo1, hr0, hr1, hr⟩ := hrel
        have HR := Lib.hid hr; clear hr
        by_cases hkl : k < s.size
        · have hkl' : k < s.data.toList.length := by rw [size_list]; exact hkl
          have hidx := at_list s k hkl
          have HS := Lib.hid (rowFold_step (boxF room) i k s.data.toList ⟨t', l', lo', r'⟩ hkl')
          generalize s.data.toList.getD k 0 = c at *
          have hcl := UInt8.toNat_lt c
          by_cases hmx : (c.toNat : Int) - 97 = room
          · have HX := Lib.hid (boxF_yes (i := i) (k := k) (t := t') (l := l') (lo := lo') (r := r') hmx)
            have hb : (((c.toNat : Int) - 97) == room) = true := by simpa using hmx
            have HMX := Lib.hid hmx; clear hmx
            go_wp2
            go_round
            case rel => exact ⟨k + 1, _, _, _, _, by omega, by go_num, rfl, rfl, rfl, rfl, by split <;> omega, by split <;> omega, by split <;> omega, by split <;> omega, by split <;> omega, by split <;> omega, by split <;> omega, by split <;> omega, by rw [← HR.out, HS.out, HX.out]⟩
            case measure => simp [intOf]; omega
          · have HX := Lib.hid (boxF_no (i := i) (k := k) (b := ⟨t', l', lo', r'⟩) hmx)
            have hb : (((c.toNat : Int) - 97) == room) = false := by simpa using hmx
            have HMX := Lib.hid hmx; clear hmx
            go_wp2
            go_round
            case rel => exact ⟨k + 1, _, _, _, _, by omega, by go_num, rfl, rfl, rfl, rfl, ht0, ht1, hl0, hl1, hlo0, hlo1, hr0, hr1, by rw [← HR.out, HS.out, HX.out]⟩
            case measure => simp [intOf]; omega
        · have HE := Lib.hid (rowFold_end (boxF room) i k s.data.toList ⟨t', l', lo', r'⟩ (by rw [size_list]; exact hkl))
          go_wp2
          go_round
          case rel => exact ⟨i + 1, _, _, _, _, by omega, by go_num, rfl, rfl, rfl, rfl, ht0, ht1, hl0, hl1, hlo0, hlo1, hr0, hr1, by rw [← HQ.out, HG.out, ← HR.out, HE.out]⟩
          case measure => simp [intOf]; omega
    · have he : bb = ⟨t, l, lo, r⟩ := by rw [← HQ.out, gridFold_end (boxF room) i p ⟨t, l, lo, r⟩ hlt]
      have HE := Lib.hid he; clear he
      go_wp2
      refine bodyPost_ret (v := .tuple #[.int .i64 t, .int .i64 l, .int .i64 (lo - t + 1), .int .i64 (r - l + 1)]) (by simp [results, Try.results119, go_sem]) rfl ⟨?_, rfl⟩
      rw [HE.out]

end Go.Proofs.Ytpgcpmfemcfoaaa

/-
  The model's plans. (Walks.)
-/
namespace Go.Proofs.Ytpgcpmfemcfoaaa
open Go.RowKit

set_option maxHeartbeats 400000 in
theorem l1Same_any (ao bo : Option Addr) (ca cb ln lm : Nat) (l m : List ByteArray) (w : World) (hln : l.length = ln) (hlm : m.length = lm) (hl : l.length ≤ maxLen)
    (ha : CellsAt w ao (l.map Value.string)) (hb : CellsAt w bo (m.map Value.string)) :
    Calls Try.prog 117 #[.slice ao ln ca, .slice bo lm cb] w
      fun e w' => e = .returned (.bool (eqS l m)) ∧ Quiet w w' := by
  subst hln; subst hlm
  unfold maxLen at hl
  go_enter Try.func117, Try.ntmps117
  by_cases hlen : l.length = m.length
  · have hne : ((l.length : Int) != (m.length : Int)) = false := by simp [hlen]
    go_wp2
    go_loopw [5] (fun i wr => ∃ (k q : Nat), k ≤ l.length ∧ i = .int .i64 k ∧ wr = w.drewN q ∧ l.take k = m.take k) (fun i _ => l.length - (intOf i).toNat)
    case atStart => exact ⟨0, 0, Nat.zero_le _, rfl, rfl, rfl⟩
    case round =>
      obtain ⟨k, q, hk, rfl, rfl, hq⟩ := hrel
      have HQ := Lib.hid hq; clear hq
      by_cases hlt : k < l.length
      · obtain ⟨b, off, rfl, hck⟩ := ha.str k hlt
        obtain ⟨b', off', rfl, hck'⟩ := hb.str k (by omega)
        have hlt' : k < m.length := by omega
        have HS := Lib.hid (eqS_step hlt hlt' HQ.out)
        have HN := Lib.hid (@eqS_no l m k)
        have HL := Lib.hid hlen
        clear ha hb hlen
        generalize l.getD k ByteArray.empty = s at *
        generalize m.getD k ByteArray.empty = t at *
        go_wp2
        go_quiet (fail)
        go_wp2
        · have hst : (!s.toList == t.toList) = true := by assumption
          go_ret
          exact ⟨ret_bool (HN.out (str_ne hst)).symm, q + nq, by simp⟩
        · have hst : (!s.toList == t.toList) = false := by assumption
          go_roundw
          case rel => exact ⟨k + 1, q + nq, by omega, by go_num, by simp, HS.out (str_eq hst)⟩
          case measure => simp [intOf]; omega
      · go_wp2
        go_ret
        exact ⟨ret_bool (eqS_all hlen hlt HQ.out).symm, _, rfl⟩
  · have hne : ((l.length : Int) != (m.length : Int)) = true := by simp; omega
    have hf := eqS_len hlen
    have HF := Lib.hid hf; clear hf hlen
    go_wp2
    go_ret
    exact ⟨ret_bool HF.out.symm, 0, rfl⟩

def boxOkB (p : List ByteArray) (r : Int) : Bool := cellsB p r == wrap64 (((boxB p r).low - (boxB p r).top + 1) * ((boxB p r).right - (boxB p r).left + 1))
/-- what the model calls a plan -/
def planB (p : List ByteArray) : Bool := gridB p && eqS (namesB p) p && decide (roomsB p ≤ 9) && (List.range (roomsB p).toNat).all fun r => boxOkB p (r : Int)

theorem planB_grid {p : List ByteArray} (h : gridB p = false) : planB p = false := by unfold planB; rw [h]; rfl
theorem planB_names {p : List ByteArray} (h : eqS (namesB p) p = false) : planB p = false := by unfold planB; rw [h, Bool.and_false]; rfl
theorem planB_rooms {p : List ByteArray} (h : ¬ roomsB p ≤ 9) : planB p = false := by unfold planB; rw [decide_eq_false h, Bool.and_false]; rfl
theorem planB_box {p : List ByteArray} {r : Nat} (h1 : (r : Int) < roomsB p) (h : boxOkB p (r : Int) = false) : planB p = false := by
  unfold planB
  rw [Bool.and_eq_false_iff]; right
  rw [Bool.eq_false_iff]; intro hh
  rw [List.all_eq_true] at hh
  have := hh r (List.mem_range.2 (by omega))
  rw [h] at this
  exact Bool.noConfusion this
theorem planB_yes {p : List ByteArray} {n : Nat} (hg : gridB p = true) (hn : eqS (namesB p) p = true) (hr : roomsB p ≤ 9) (hn2 : roomsB p ≤ (n : Int)) (h : ∀ r, r < n → boxOkB p (r : Int) = true) : planB p = true := by
  unfold planB
  rw [hg, hn, decide_eq_true hr, Bool.true_and, Bool.true_and, Bool.true_and, List.all_eq_true]
  intro r hr'
  rw [List.mem_range] at hr'
  exact h r (by omega)

theorem gridB_len {p : List ByteArray} (h : gridB p = true) : 1 ≤ p.length ∧ p.length ≤ 6 := by
  unfold gridB at h
  rw [Bool.and_eq_true] at h
  have := h.2
  unfold l6B at this
  rw [decide_eq_true_eq] at this
  omega

theorem gridB_row {p : List ByteArray} (h : gridB p = true) : ∀ s ∈ p, s.size = (p.getD 0 ByteArray.empty).size ∧ 1 ≤ s.size ∧ s.size ≤ 6 ∧ smallB s.data.toList = true := fun s hs => by
  unfold gridB at h
  rw [Bool.and_eq_true, List.all_eq_true] at h
  have := h.1 s hs
  unfold rowB at this
  rw [Bool.and_eq_true, Bool.and_eq_true, decide_eq_true_eq] at this
  have h6 := this.1.2
  unfold l6B at h6
  rw [decide_eq_true_eq] at h6
  exact ⟨this.1.1, by omega, by omega, this.2⟩

theorem roomsF_bound (p : List ByteArray) : 0 ≤ roomsB p ∧ roomsB p ≤ 256 := by
  have hrow : ∀ (i : Nat) (l : List UInt8) (k : Nat) (n : Int), 0 ≤ n → n ≤ 256 → 0 ≤ rowFold roomsF i k l n ∧ rowFold roomsF i k l n ≤ 256 := by
    intro i l
    induction l with
    | nil => intro k n h0 h1; exact ⟨h0, h1⟩
    | cons c l ih =>
      intro k n h0 h1
      have hc := UInt8.toNat_lt c
      rw [rowFold]
      refine ih (k + 1) _ ?_ ?_ <;> unfold roomsF <;> split <;> omega
  have hgrid : ∀ (p : List ByteArray) (i : Nat) (n : Int), 0 ≤ n → n ≤ 256 → 0 ≤ gridFold roomsF i p n ∧ gridFold roomsF i p n ≤ 256 := by
    intro p
    induction p with
    | nil => intro i n h0 h1; exact ⟨h0, h1⟩
    | cons s p ih =>
      intro i n h0 h1
      rw [gridFold]
      have := hrow i s.data.toList 0 n h0 h1
      exact ih (i + 1) _ this.1 this.2
  exact hgrid p 0 0 (by omega) (by omega)

set_option maxHeartbeats 800000 in
theorem specPlanIn_any (ao : Option Addr) (cap : Nat) (p : List ByteArray) (w : World) (hl : p.length ≤ 1048576) (hs : ∀ s ∈ p, s.size ≤ 1048576)
    (hc : CellsAt w ao (p.map Value.string)) :
    Calls Try.prog 88 #[.slice ao p.length cap] w
      fun e w' => e = .returned (.bool (planB p)) ∧ Below w.heap.size w w' := by
  cases hg : gridB p
  · have HP := Lib.hid (planB_grid hg)
    go_enter Try.func88, Try.ntmps88
    go_wp2_with (go_at_call 116; refine (l1Grid_any _ _ _ _ hl hs hc).mono ?_; rintro e w1 ⟨rfl, hq1⟩)
    go_ret
    exact ⟨ret_bool HP.out.symm, hq1.below _⟩
  · have hdim := gridB_len hg
    have hrow := gridB_row hg
    have hs6 : ∀ s ∈ p, s.size ≤ 6 := fun s h => (hrow s h).2.2.1
    have hl6 := hdim.2
    have HG := Lib.hid hg
    cases hn : eqS (namesB p) p
    · have HP := Lib.hid (planB_names hn)
      go_enter Try.func88, Try.ntmps88
      go_wp2_with (first
        | (go_at_call 116; refine (l1Grid_any _ _ _ _ hl hs hc).mono ?_; rintro e w1 ⟨rfl, hq1⟩; have hc1 := hq1.cells hc)
        | (go_at_call 118; refine (l1Names_any _ _ _ _ hl6 hs6 hc1).mono ?_; rintro e w2 ⟨ro, rc, rfl, hown2, hb2⟩; have hc2 := hc1.below hb2; have hcn := owns_cells hown2)
        | (go_at_call 117; refine (l1Same_any _ _ _ _ _ _ (namesB p) p _ (namesB_len p) rfl (by rw [namesB_len]; unfold maxLen; omega) hcn hc2).mono ?_; rintro e w3 ⟨rfl, hq3⟩))
      go_ret
      exact ⟨ret_bool HP.out.symm, below_step (hq1.below _) (by rw [hq1.size]; exact Nat.le_refl _) (hb2.trans (hq3.below _))⟩
    · by_cases hr : roomsB p ≤ 9
      · have hrb := roomsF_bound p
        obtain ⟨R, hR⟩ : ∃ R : Nat, roomsB p = (R : Int) := ⟨(roomsB p).toNat, by omega⟩
        have HN := Lib.hid hn; have HR := Lib.hid hr
        have HRR := Lib.hid hR
        go_enter Try.func88, Try.ntmps88
        go_wp2_with (first
          | (go_at_call 116; refine (l1Grid_any _ _ _ _ hl hs hc).mono ?_; rintro e w1 ⟨rfl, hq1⟩; have hc1 := hq1.cells hc)
          | (go_at_call 118; refine (l1Names_any _ _ _ _ hl6 hs6 hc1).mono ?_; rintro e w2 ⟨ro, rc, rfl, hown2, hb2⟩; have hc2 := hc1.below hb2; have hcn := owns_cells hown2)
          | (go_at_call 117; refine (l1Same_any _ _ _ _ _ _ (namesB p) p _ (namesB_len p) rfl (by rw [namesB_len]; unfold maxLen; omega) hcn hc2).mono ?_; rintro e w3 ⟨rfl, hq3⟩; have hc3 := hq3.cells hc2)
          | (go_at_call 56; refine (l1Rooms_any _ _ _ _ hl hs hc3).mono ?_; rintro e w4 ⟨rfl, rfl⟩))
        have hb5 : Below w.heap.size w w4 := below_step (hq1.below _) (by rw [hq1.size]; exact Nat.le_refl _) (hb2.trans (hq3.below _))
        clear hq1 hb2 hq3 hc1 hc2 hc3 hcn hown2
        go_loopw [3] (fun vi wr => ∃ (r : Nat), r ≤ R ∧ vi = .int .i64 r ∧ Below w.heap.size w wr ∧ ∀ j, j < r → boxOkB p (j : Int) = true) (fun i _ => R - (intOf i).toNat)
        case atStart => exact ⟨0, Nat.zero_le _, rfl, hb5, fun j hj => by omega⟩
        case round =>
          clear hb5
          obtain ⟨r, hrR, rfl, hb, hall⟩ := hrel
          have HALL := Lib.hid hall; clear hall
          have hcr := hc.below hb
          by_cases hlt : r < R
          · cases hbx : boxOkB p (r : Int)
            · have HP := Lib.hid (planB_box (p := p) (r := r) (by omega) hbx)
              obtain ⟨bx, hbxe⟩ : ∃ bx, boxB p (r : Int) = bx := ⟨_, rfl⟩
              unfold boxOkB at hbx
              rw [hbxe] at hbx
              have hne : (cellsB p (r : Int) != wrap64 ((bx.low - bx.top + 1) * (bx.right - bx.left + 1))) = true := by unfold bne; rw [hbx]; rfl
              have HBXE := Lib.hid hbxe; clear hbxe hbx
              go_wp2_with (first
                | (go_at_call 56; refine (l1Rooms_any _ _ _ _ hl hs hcr).mono ?_; rintro e w5 ⟨rfl, hw5⟩; subst hw5)
                | (go_at_call 119; refine (l1Room_any _ _ _ _ _ hdim.1 hl hs hcr).mono ?_; rw [HBXE.out]; rintro e w5 ⟨rfl, hw5⟩; subst hw5)
                | (go_at_call 120; refine (l1Cells_any _ _ _ _ _ hl hs hcr).mono ?_; rintro e w5 ⟨rfl, hw5⟩; subst hw5))
              go_ret
              exact ⟨ret_bool HP.out.symm, hb⟩
            · have HP := Lib.hid (@rows_step (fun j => boxOkB p (j : Int) = true) r HALL.out hbx)
              obtain ⟨bx, hbxe⟩ : ∃ bx, boxB p (r : Int) = bx := ⟨_, rfl⟩
              unfold boxOkB at hbx
              rw [hbxe] at hbx
              have hne : (cellsB p (r : Int) != wrap64 ((bx.low - bx.top + 1) * (bx.right - bx.left + 1))) = false := by unfold bne; rw [hbx]; rfl
              have HBXE := Lib.hid hbxe; clear hbxe hbx
              go_wp2_with (first
                | (go_at_call 56; refine (l1Rooms_any _ _ _ _ hl hs hcr).mono ?_; rintro e w5 ⟨rfl, hw5⟩; subst hw5)
                | (go_at_call 119; refine (l1Room_any _ _ _ _ _ hdim.1 hl hs hcr).mono ?_; rw [HBXE.out]; rintro e w5 ⟨rfl, hw5⟩; subst hw5)
                | (go_at_call 120; refine (l1Cells_any _ _ _ _ _ hl hs hcr).mono ?_; rintro e w5 ⟨rfl, hw5⟩; subst hw5))
              go_roundw
              case rel => exact ⟨r + 1, by omega, by go_num, hb, HP.out⟩
              case measure => simp [intOf]; omega
          · have HP := Lib.hid (planB_yes (n := r) HG.out HN.out HR.out (by rw [HRR.out]; omega) HALL.out)
            go_wp2_with (first
              | (go_at_call 56; refine (l1Rooms_any _ _ _ _ hl hs hcr).mono ?_; rintro e w5 ⟨rfl, hw5⟩; subst hw5))
            go_ret
            exact ⟨ret_bool HP.out.symm, hb⟩
      · have HP := Lib.hid (planB_rooms hr)
        go_enter Try.func88, Try.ntmps88
        go_wp2_with (first
          | (go_at_call 116; refine (l1Grid_any _ _ _ _ hl hs hc).mono ?_; rintro e w1 ⟨rfl, hq1⟩; have hc1 := hq1.cells hc)
          | (go_at_call 118; refine (l1Names_any _ _ _ _ hl6 hs6 hc1).mono ?_; rintro e w2 ⟨ro, rc, rfl, hown2, hb2⟩; have hc2 := hc1.below hb2; have hcn := owns_cells hown2)
          | (go_at_call 117; refine (l1Same_any _ _ _ _ _ _ (namesB p) p _ (namesB_len p) rfl (by rw [namesB_len]; unfold maxLen; omega) hcn hc2).mono ?_; rintro e w3 ⟨rfl, hq3⟩; have hc3 := hq3.cells hc2)
          | (go_at_call 56; refine (l1Rooms_any _ _ _ _ hl hs hc3).mono ?_; rintro e w4 ⟨rfl, rfl⟩))
        go_ret
        exact ⟨ret_bool HP.out.symm, below_step (hq1.below _) (by rw [hq1.size]; exact Nat.le_refl _) (hb2.trans (hq3.below _))⟩

end Go.Proofs.Ytpgcpmfemcfoaaa
