
/-
  The model's letters given anew. (Walk.)
-/
import Derived.Test.YtieieokkaomkaaaSpecA
import Derived.Test.YtieieokkaomkaaaPlanM
namespace Go.Proofs.Ytieieokkaomkaaa
open Go.RowKit

theorem Try.infoByte : (Try.prog.info? 5).map (fun i => (i.zero, i.size, i.bytes)) = some (some (.int .u8 0), 1, 1) := by kernel_rfl
theorem Try.infoText : (Try.prog.info? 9).map (fun i => (i.zero, i.size, i.bytes)) = some (some (.string ⟨#[]⟩), 1, 16) := by kernel_rfl

set_option maxHeartbeats 1000000 in
theorem l1Names_any (ao : Option Addr) (cap : Nat) (p : List ByteArray) (w : World) (hl : p.length ≤ 6) (hs : ∀ s ∈ p, s.size ≤ 6)
    (hc : CellsAt w ao (p.map Value.string)) :
    Calls Try.prog 39 #[.slice ao p.length cap] w
      fun e w' => ∃ ro rc, e = .returned (.slice ro p.length rc) ∧ w'.ownsRow w.heap.size 9 1 (.slice ro p.length rc) p.length ((namesB p).map Value.string) ∧ Below w.heap.size w w' := by
  obtain ⟨ib, hbi, hbz, hb1, hb2⟩ := info_parts Try.infoByte
  obtain ⟨it, hti, htz, ht1, ht2⟩ := info_parts Try.infoText
  obtain ⟨F, hF⟩ : ∃ F, F = firsts (flat p) := ⟨_, rfl⟩
  have HF := Lib.hid hF; clear hF
  go_enter Try.func39, Try.ntmps39
  go_wp2
  have hW1 : Below w.heap.size w ((w.alloc (.cells #[] 5)).alloc (.cells #[] 9)) := ((Below.refl _ _).alloc (Nat.le_refl _) _).alloc (by simp) _
  have ho1 : ((w.alloc (.cells #[] 5)).alloc (.cells #[] 9)).ownsRow w.heap.size 5 1 (.slice (some ⟨w.heap.size, 0, none⟩) 0 0) 0 (([] : List UInt8).map byteV) := (World.ownsRow_made w #[] 0 (Nat.le_refl _) (Nat.zero_le _) rfl).alloc _
  have hr1 : ((w.alloc (.cells #[] 5)).alloc (.cells #[] 9)).ownsRow w.heap.size 9 1 (.slice (some ⟨w.heap.size + 1, 0, none⟩) 0 0) 0 (([] : List ByteArray).map Value.string) := by
    have := World.ownsRow_made (base := w.heap.size) (e := 9) (size := 1) (w.alloc (.cells #[] 5)) #[] 0 (by simp) (Nat.zero_le _) rfl
    simpa using this
  go_loopw [3, 4, 5] (fun vo vr vi wr => ∃ (i : Nat) (oo ro : Option Addr) (oc rc : Nat), i ≤ p.length ∧ vi = .int .i64 i ∧ vo = .slice oo (firsts (flat (p.take i))).length oc ∧ vr = .slice ro i rc ∧
      wr.ownsRow w.heap.size 5 1 (.slice oo (firsts (flat (p.take i))).length oc) (firsts (flat (p.take i))).length ((firsts (flat (p.take i))).map byteV) ∧
      wr.ownsRow w.heap.size 9 1 (.slice ro i rc) i (((namesB p).take i).map Value.string) ∧ Apart oo ro ∧ Below w.heap.size w wr) (fun _ _ i _ => p.length - (intOf i).toNat)
  case atStart => exact ⟨0, _, _, _, _, Nat.zero_le _, rfl, rfl, rfl, ho1, hr1, (fun a b ha hb => by cases ha; cases hb; simp), hW1⟩
  case round =>
    clear hW1 ho1 hr1
    obtain ⟨i, oo, ro, oc, rc, hi, rfl, rfl, rfl, hown, hrow, hap, hb⟩ := hrel
    have hbs := hb.size
    by_cases hlt : i < p.length
    · have hsz := hs _ (getD_mem ByteArray.empty hlt)
      have HST := Lib.hid (namesB_step p i hlt)
      have HSP := Lib.hid (fun k hk => flat_split p i k hlt hk)
      have HSN := Lib.hid (flat_snoc (p.take i) (p.getD i ByteArray.empty))
      have HTK := Lib.hid (take_succ_getD p i ByteArray.empty hlt)
      have hP : (flat (p.take i)).length ≤ 30 := Nat.le_trans (flat_len (p.take i) 6 (fun t ht => hs t (List.mem_of_mem_take ht))) (by rw [List.length_take]; omega)
      obtain ⟨b, off, rfl, hcw⟩ := hc.str i hlt
      have hck := cell_below hcw hb
      generalize hP0 : flat (p.take i) = P at *
      generalize hs0 : p.getD i ByteArray.empty = s at *
      have HP0 := Lib.hid hP0; have HS0 := Lib.hid hs0
      clear hP0 hs0 hc hs
      have e0 : P ++ s.data.toList.take 0 = P := by simp
      have HE0 := Lib.hid e0; clear e0
      go_wp2
      go_loopw [3, 6, 7, 8] (fun vo vr vk _ wm => ∃ (k : Nat) (oo' so : Option Addr) (oc' sc : Nat), k ≤ s.size ∧ vk = .int .i64 k ∧ vo = .slice oo' (firsts (P ++ s.data.toList.take k)).length oc' ∧ vr = .slice so k sc ∧
          wm.ownsRow w.heap.size 5 1 (.slice oo' (firsts (P ++ s.data.toList.take k)).length oc') (firsts (P ++ s.data.toList.take k)).length ((firsts (P ++ s.data.toList.take k)).map byteV) ∧
          wm.ownsRow w.heap.size 5 1 (.slice so k sc) k ((namesL F (s.data.toList.take k)).map byteV) ∧
          wm.ownsRow w.heap.size 9 1 (.slice ro i rc) i (((namesB p).take i).map Value.string) ∧ Apart oo' ro ∧ Apart oo' so ∧ Apart so ro ∧ Below w.heap.size w wm) (fun _ _ k _ _ => s.size - (intOf k).toNat)
      case atStart =>
        exact ⟨0, oo, _, oc, 0, Nat.zero_le _, rfl, by rw [HE0.out], rfl, by rw [HE0.out]; exact hown.alloc _, World.ownsRow_made wr #[] 0 hbs (Nat.zero_le _) rfl, hrow.alloc _, by exact hap,
          Apart.fresh (fun a ha => (owns_lt hown a ha).2) (Nat.le_refl _) 0 none, (Apart.fresh (fun a ha => (owns_lt hrow a ha).2) (Nat.le_refl _) 0 none).symm, hb.alloc hbs _⟩
      case round =>
        clear hown hrow hap hb hck hbs
        obtain ⟨k, oo', so, oc', sc, hk, rfl, rfl, rfl, hown1, hnam1, hrow1, hap1, hap2, hap3, hb1w⟩ := hrel
        obtain ⟨wm, rfl⟩ : ∃ wm, wm = wr := ⟨_, rfl⟩
        have hbs1 := hb1w.size
        have hck1 := cell_below hcw hb1w
        by_cases hkl : k < s.size
        · have hkl' : k < s.data.toList.length := by rw [size_list]; exact hkl
          have hidx := at_list s k hkl
          have HSPk := Lib.hid (HSP.out k hkl')
          have HNS := Lib.hid (namesL_step F s.data.toList k hkl')
          have HTS := Lib.hid (take_succ_getD s.data.toList k 0 hkl')
          have hPl : (P ++ s.data.toList.take k).length ≤ 36 := by rw [List.length_append, List.length_take]; omega
          have hol := Nat.le_trans (firsts_len (P ++ s.data.toList.take k)) hPl
          have HSN1 := Lib.hid (firsts_snoc (P ++ s.data.toList.take k) (s.data.toList.getD k 0))
          generalize ho0 : firsts (P ++ s.data.toList.take k) = o at *
          have HO := Lib.hid ho0; clear ho0
          generalize hc0 : s.data.toList.getD k 0 = c at *
          clear hc0
          go_wp2
          go_loopw [8] (fun va wq => ∃ (t : Nat), t ≤ o.length ∧ va = .int .i64 t ∧ Quiet wm wq ∧ ∀ j, j < t → o.getD j 0 ≠ c) (fun t _ => o.length - (intOf t).toNat)
          case atStart => exact ⟨0, Nat.zero_le _, rfl, Quiet.refl _, fun j hj => by omega⟩
          case round =>
            obtain ⟨t, ht, rfl, hq, hno⟩ := hrel
            have HNO := Lib.hid hno; clear hno
            have hck2 := cell_below hck1 (hq.below _)
            have hown2 := hq.owns hown1
            by_cases hto : t < o.length
            · obtain ⟨bo, offo, rfl, hco⟩ := (owns_cells hown2).byte t hto
              have HIF := Lib.hid (@idxOf_found _ _ o c 0 t hto HNO.out)
              have HNX := Lib.hid (@rows_step (fun j => o.getD j 0 ≠ c) t HNO.out)
              have HMEM := Lib.hid (getD_mem (l := o) 0 hto)
              generalize o.getD t 0 = d at *
              by_cases hcc : d = c
              · have hne : ((d.toNat : Int) != (c.toNat : Int)) = false := by simp [hcc]
                have HCC := Lib.hid hcc; clear hcc
                have HIDX := Lib.hid (HIF.out HCC.out)
                have hname : F.idxOf c = t := by rw [HF.out, HSPk.out, name_at, HO.out, HIDX.out]
                have hb1' : k + 1 ≤ maxLen := by unfold maxLen; omega
                have hb2' : (k + 1) * 1 ≤ 140737488355328 := by omega
                have HNM := Lib.hid hname; clear hname
                go_wp2
                go_quiet (fail)
                have hq3 := hq.then nq
                generalize wr.drewN nq = wq at *
                have hck3 := cell_below hck1 (hq3.below _)
                have hown3 := hq3.owns hown1
                have hnam3 := hq3.owns hnam1
                have hrow3 := hq3.owns hrow1
                have hb3 := hb1w.trans (hq3.below _)
                have hbs3 := hb3.size
                clear hck1 hown1 hnam1 hrow1 hb1w hbs1 hck2 hown2
                have hte : ((t : Int) == (o.length : Int)) = false := by rw [beq_eq_false_iff_ne]; omega
                go_wp2_with (at_builtin; refine wpList_push _ rfl (.tmp 59) (.tmp 63) 71 rfl w.heap.size 5 ib (.int .u8 0) 1 Try.underlying71 hbi hbz hb1 hb2 rfl so k sc _ rfl (hnam3.alloc _) _ _ _ rfl (cell_new _ _ _) rfl hb1' hb2' (by simp; omega) ?_; intro so2 sc2 w2 hnam4 hg4 hnew4)
                have hfk : firsts (P ++ s.data.toList.take (k + 1)) = o := by
                  rw [HTS.out, ← List.append_assoc, HSN1.out, if_pos (by have h1 := HMEM.out; have h2 := HCC.out; rwa [h2] at h1)]
                have hnk : (namesL F (s.data.toList.take k)).map byteV ++ [Value.int .u8 (97 + (t : Int))] = (namesL F (s.data.toList.take (k + 1))).map byteV := by
                  rw [HNS.out, HNM.out, List.map_append, byteV_of (n := 97 + (t : Int)) (m := 97 + t) (by omega) (by omega)]; rfl
                have HFK := Lib.hid hfk; have HNK := Lib.hid hnk; clear hfk hnk
                have hlt2 := owns_lt hown3
                have hlt3 := owns_lt hrow3
                go_roundw
                case rel => exact ⟨k + 1, _, so2, oc', sc2, by omega, by go_num, by rw [HFK.out], rfl, by rw [HFK.out]; exact owns_push_other hown3 hg4 hap2, owns_eq hnam4 HNK.out, owns_push_other hrow3 hg4 hap3.symm, hap1, (apart_push hap2.symm hnew4 (fun a ha => (hlt2 a ha).2)).symm, apart_push hap3 hnew4 (fun a ha => (hlt3 a ha).2), below_push hb3 hbs3 hg4 (fun a ha => (owns_lt hnam3 a ha).1)⟩
                case measure => simp [intOf]; omega
              · have hne : ((d.toNat : Int) != (c.toNat : Int)) = true := by
                  rw [bne_iff_ne]; intro h; apply hcc; exact UInt8.toNat_inj.1 (by omega)
                have HCC := Lib.hid hcc; clear hcc
                go_wp2
                go_quiet (fail)
                go_wp2
                go_roundw
                case rel => exact ⟨t + 1, by omega, by go_num, hq.then nq, HNX.out HCC.out⟩
                case measure => simp [intOf]; omega
            · obtain rfl : t = o.length := by omega
              have hnm : c ∉ o := not_mem_of (z := 0) HNO.out
              have hname : F.idxOf c = o.length := by rw [HF.out, HSPk.out, name_at, HO.out, idxOf_not_mem hnm]
              have hfk : firsts (P ++ s.data.toList.take (k + 1)) = o ++ [c] := by
                rw [HTS.out, ← List.append_assoc, HSN1.out, if_neg hnm]
              have hnk : (namesL F (s.data.toList.take k)).map byteV ++ [Value.int .u8 (97 + (o.length : Int))] = (namesL F (s.data.toList.take (k + 1))).map byteV := by
                rw [HNS.out, hname, List.map_append, byteV_of (n := 97 + (o.length : Int)) (m := 97 + o.length) (by omega) (by omega)]; rfl
              have hok : o.map byteV ++ [Value.int .u8 (c.toNat : Int)] = (o ++ [c]).map byteV := by simp [byteV]
              have HFK := Lib.hid hfk; have HNK := Lib.hid hnk; have HOK := Lib.hid hok
              clear hfk hnk hok hnm hname
              have hb1' : k + 1 ≤ maxLen := by unfold maxLen; omega
              have hb2' : (k + 1) * 1 ≤ 140737488355328 := by omega
              have hb3' : o.length + 1 ≤ maxLen := by unfold maxLen; omega
              have hb4' : (o.length + 1) * 1 ≤ 140737488355328 := by omega
              have hte : ((o.length : Int) == (o.length : Int)) = true := by simp
              go_wp2
              go_quiet (fail)
              have hq3 := hq.then nq
              generalize wr.drewN nq = wq at *
              have hck3 := cell_below hck1 (hq3.below _)
              have hown3 := hq3.owns hown1
              have hnam3 := hq3.owns hnam1
              have hrow3 := hq3.owns hrow1
              have hb3 := hb1w.trans (hq3.below _)
              have hbs3 := hb3.size
              clear hck1 hown1 hnam1 hrow1 hb1w hbs1 hck2 hown2 hq hq3
              go_wp2_with (first
                | (at_builtin; refine wpList_push _ rfl (.tmp 50) (.tmp 57) 71 rfl w.heap.size 5 ib (.int .u8 0) 1 Try.underlying71 hbi hbz hb1 hb2 rfl oo' o.length oc' _ rfl (hown3.alloc _) _ _ _ rfl (cell_new _ _ _) rfl hb3' hb4' (by simp; omega) ?_; intro oo2 oc2 w1 hown4 hg3 hnew3; have hnam4 := owns_push_other hnam3 hg3 hap2.symm; have hrow4 := owns_push_other hrow3 hg3 hap1.symm; have hb5 := below_push hb3 hbs3 hg3 (fun a ha => (owns_lt hown3 a ha).1); have hbs5 := hb5.size; have hck4 := cell_below hcw hb5; have hap4 := apart_push hap1 hnew3 (fun a ha => (owns_lt hrow3 a ha).2); have hap5 := apart_push hap2 hnew3 (fun a ha => (owns_lt hnam3 a ha).2))
                | (at_builtin; refine wpList_push _ rfl (.tmp 59) (.tmp 63) 71 rfl w.heap.size 5 ib (.int .u8 0) 1 Try.underlying71 hbi hbz hb1 hb2 rfl so k sc _ rfl (hnam4.alloc _) _ _ _ rfl (cell_new _ _ _) rfl hb1' hb2' (by simp; omega) ?_; intro so2 sc2 w2 hnam6 hg4 hnew4))
              have hlt2 := owns_lt hown4
              have hlt3 := owns_lt hrow4
              have hown5 := owns_eq hown4 HOK.out
              have hown6 := owns_push_other hown5 hg4 hap5
              have hlen : (o ++ [c]).length = o.length + 1 := by simp
              rw [← HFK.out] at hown6 hlen
              clear hown5
              have HLEN := Lib.hid hlen; clear hlen
              have hb6 := below_push hb5 hbs5 hg4 (fun a ha => (owns_lt hnam4 a ha).1)
              go_roundw
              case rel => exact ⟨k + 1, oo2, so2, oc2, sc2, by omega, by go_num, by rw [HLEN.out], rfl, by rw [HLEN.out]; exact hown6, owns_eq hnam6 HNK.out, owns_push_other hrow4 hg4 hap3.symm, hap4, (apart_push hap5.symm hnew4 (fun a ha => (hlt2 a ha).2)).symm, apart_push hap3 hnew4 (fun a ha => (hlt3 a ha).2), hb6⟩
              case measure => simp [intOf]; omega
        · obtain rfl : k = s.size := by omega
          have hwh : s.data.toList.take s.size = s.data.toList := List.take_of_length_le (by rw [size_list]; exact Nat.le_refl _)
          rw [hwh] at hown1 hnam1
          have hPs : P ++ s.data.toList = flat (p.take (i + 1)) := by rw [HTK.out, HSN.out]
          have HPS := Lib.hid hPs; have HWH := Lib.hid hwh
          clear hwh hPs
          have hln : (namesL F s.data.toList).length = s.size := by simp only [namesL, List.length_map, size_list]
          have HLN := Lib.hid hln; clear hln
          have hst : ((namesB p).take i).map Value.string ++ [.string ⟨(namesL F s.data.toList).toArray⟩] = ((namesB p).take (i + 1)).map Value.string := by
            rw [HST.out, HF.out, List.map_append]; rfl
          have HSTT := Lib.hid hst; clear hst
          have hb1' : i + 1 ≤ maxLen := by unfold maxLen; omega
          have hb2' : (i + 1) * 16 ≤ 140737488355328 := by omega
          go_wp2_with (first
            | (at_builtin; refine wpList_push _ rfl (.tmp 65) (.tmp 68) 22 rfl w.heap.size 9 it (.string ⟨#[]⟩) 16 Try.underlying22 hti htz ht1 ht2 rfl ro i rc _ rfl (hrow1.alloc _) _ _ _ rfl (cell_new _ _ _) rfl hb1' hb2' (by simp; omega) ?_; intro ro2 rc2 w2 hrow2 hg2 hnew2)
            | (refine wpList_str_of_bytes _ rfl 71 9 5 _ rfl Try.underlying71 Try.underlying5 Try.underlying9 so s.size sc rfl (namesL F s.data.toList) HLN.out (owns_cells hnam1) ?_))
          have hlt2 := owns_lt hown1
          have hown2 := owns_push_other hown1 hg2 hap1
          rw [HPS.out] at hown2
          go_roundw
          case rel => exact ⟨i + 1, oo', ro2, oc', rc2, by omega, by go_num, by rw [HWH.out, HPS.out], rfl, hown2, owns_eq hrow2 HSTT.out, (apart_push hap1.symm hnew2 (fun a ha => (hlt2 a ha).2)).symm, below_push hb1w hbs1 hg2 (fun a ha => (owns_lt hrow1 a ha).1)⟩
          case measure => simp [intOf]; omega
    · obtain rfl : i = p.length := by omega
      have hall : (namesB p).take p.length = namesB p := List.take_of_length_le (by rw [namesB_len]; exact Nat.le_refl _)
      rw [hall] at hrow
      clear hall
      go_wp2
      go_ret
      exact ⟨_, _, rfl, hrow, hb⟩

end Go.Proofs.Ytieieokkaomkaaa
