
/-
  The first colours of rooms: the program's answers. (Walks: a closure that calls itself.)
-/
import Derived.Test.YtgiikdcjigcnlaaColI
import Derived.Test.YtgiikdcjigcnlaaColS
import Derived.Deep.Cut

namespace Go.Proofs.Ytgiikdcjigcnlaa
open Go.RowKit

theorem owns_cut {w : World} {base g cc m : Nat} {e : TypeId} {xs : List Value} {x : Value} (h : w.ownsRow base e 1 (.slice (some ⟨g, 0, none⟩) (m + 1) cc) (m + 1) (xs ++ [x])) : w.ownsRow base e 1 (.slice (some ⟨g, 0, none⟩) m cc) m xs := by
  obtain ⟨hl, h2⟩ := h
  have hxl : xs.length = m := by simpa using hl
  refine ⟨by omega, ?_⟩
  rcases h2 with ⟨hv, _⟩ | ⟨g', cap, cur, hv, hb, hg, hn, hc, hs, ht⟩
  · cases hv
  · simp only [Value.slice.injEq, Option.some.injEq, Addr.mk.injEq, and_true, true_and] at hv
    obtain ⟨rfl, rfl⟩ := hv
    refine .inr ⟨g, cc, cur, rfl, hb, hg, by omega, hc, hs, ?_⟩
    have : (cur.toList.take ((m + 1) * 1)).take (m * 1) = (xs ++ [x]).take m := by rw [ht, Nat.mul_one]
    rw [List.take_take, Nat.min_eq_left (by omega)] at this
    rw [this, List.take_left' hxl]

/-- what lies in memory while rooms get their colours -/
structure StP (w : World) (U T M Fn Rb n c many : Nat) (C : List Nat) (g cc : Nat) (wr : World) : Prop where
  u : HeldB wr U 31 #[.slice (some ⟨g, 0, none⟩) C.length cc]
  t : HeldB wr T 38 #[.slice (some ⟨Rb, 0, none⟩) n c]
  m : HeldB wr M 3 #[.int .i64 (many : Nat)]
  fn : HeldB wr Fn 80 #[.func (.func 54) #[] #[.pointer (some ⟨U, 0, none⟩), .pointer (some ⟨T, 0, none⟩), .pointer (some ⟨M, 0, none⟩), .pointer (some ⟨Fn, 0, none⟩)]]
  row : wr.ownsRow w.heap.size 3 1 (.slice (some ⟨g, 0, none⟩) C.length cc) C.length (intsN C)
  ne : g ≠ U ∧ g ≠ T ∧ g ≠ M ∧ g ≠ Fn
  neu : T ≠ U ∧ M ≠ U ∧ Fn ≠ U ∧ w.heap.size ≤ U
  below : Below w.heap.size w wr
theorem StP.step {w wr w' : World} {U T M Fn Rb n c many g cc : Nat} {C : List Nat} (h : StP w U T M Fn Rb n c many C g cc wr) (hb : Below wr.heap.size wr w') : StP w U T M Fn Rb n c many C g cc w' :=
  ⟨h.u.below hb, h.t.below hb, h.m.below hb, h.fn.below hb, ownsRow_below h.row hb, h.ne, h.neu, below_step h.below h.below.size hb⟩

set_option maxRecDepth 100000 in
set_option maxHeartbeats 8000000 in
theorem colourRest_any (Q n c Rb many U T M Fn : Nat) (f : Nat → Nat → Nat) (near : Nat → Nat → Bool) (hn : ∀ a b, near a b = decide (0 < f a b)) (K : Nat → Prop) (so : Nat → Option Addr) (sc : Nat → Nat) (w : World) (h9 : n ≤ 9) (hm : many ≤ 9)
    (h : ChB w Q n f K so sc) (hp : CellsAt w (some ⟨Rb, 0, none⟩) (ptrs Q n)) :
    ∀ (k : Nat) (C : List Nat) (g cc : Nat) (wr : World), C.length + k = n → StP w U T M Fn Rb n c many C g cc wr →
    Calls Try.prog 54 #[.pointer (some ⟨U, 0, none⟩), .pointer (some ⟨T, 0, none⟩), .pointer (some ⟨M, 0, none⟩), .pointer (some ⟨Fn, 0, none⟩)] wr
      fun e w' => e = .returned (.bool (colS near many k C).isSome) ∧ ∃ g' cc', StP w U T M Fn Rb n c many ((colS near many k C).getD C) g' cc' w'
  | 0, C, g, cc, wr, hCk, hst => by
    have cu := hst.u.cell 0
    have ct := hst.t.cell 0
    have cu0 : wr.cell? ⟨U, 0, none⟩ = some (.slice (some ⟨g, 0, none⟩) C.length cc) := cu
    have ct0 : wr.cell? ⟨T, 0, none⟩ = some (.slice (some ⟨Rb, 0, none⟩) n c) := ct
    have HST := Lib.hid hst
    have heq : ((C.length : Int) == (n : Int)) = true := by rw [beq_iff_eq]; omega
    have HCK := Lib.hid hCk
    clear hst cu ct hCk h hp hn
    show Calls _ _ _ _ fun e w' => e = .returned (.bool true) ∧ ∃ g' cc', StP w U T M Fn Rb n c many C g' cc' w'
    go_enter Try.func54, Try.ntmps54
    go_wp2
    go_ret
    exact ⟨rfl, g, cc, HST.out⟩
  | k + 1, C, g, cc, wr, hCk, hst => by
    obtain ⟨it, hti0, htz, ht1, ht2⟩ := info_parts Try.infoNum
    have eg := enters_of Try.func54 (by kernel_rfl) rfl
    have HIH := Lib.hid (fun (C : List Nat) (g cc : Nat) (wr : World) h1 h2 => colourRest_any Q n c Rb many U T M Fn f near hn K so sc w h9 hm h hp k C g cc wr h1 h2)
    have HME := Lib.hid (fun (c g cc : Nat) (wr : World) (hb : Below w.heap.size w wr) (hC : C.length < n) hc => meets_any Q n c f near hn K so sc (some ⟨g, 0, none⟩) cc C wr h9 hC (h.below hb) hc)
    have hpt := ptr_cell (hp.below hst.below) (a := C.length) (by omega)
    have HFS := Lib.hid (fun c (h : ∀ j, j < c → colF near many k C j = none) => show (c < many → ∀ o, colF near many k C c = some o → colS near many (k + 1) C = some o) from fun hc o ho => by rw [colS_succ]; exact fs_some h hc ho)
    have HFN := Lib.hid (fun (h : ∀ j, j < many → colF near many k C j = none) => show colS near many (k + 1) C = none by rw [colS_succ]; exact fs_none h)
    have cu0 : wr.cell? ⟨U, 0, none⟩ = some (.slice (some ⟨g, 0, none⟩) C.length cc) := hst.u.cell 0
    have ct0 : wr.cell? ⟨T, 0, none⟩ = some (.slice (some ⟨Rb, 0, none⟩) n c) := hst.t.cell 0
    have cm0 : wr.cell? ⟨M, 0, none⟩ = some (.int .i64 (many : Nat)) := hst.m.cell 0
    have hCn : (C.length : Int) < (n : Int) := by omega
    have heq : ((C.length : Int) == (n : Int)) = false := by rw [beq_eq_false_iff_ne]; omega
    have HCN := Lib.hid (show C.length < n by omega)
    have HCK := Lib.hid (show C.length + 1 + k = n by omega)
    have hC9 : C.length + 1 ≤ 9 := by omega
    clear h hp hn hCk
    go_enter Try.func54, Try.ntmps54
    go_wp2
    go_loopw [18] (fun vc wq => ∃ d g cc : Nat, d ≤ many ∧ vc = .int .i64 d ∧ Hid (∀ j, j < d → colF near many k C j = none) ∧ StP w U T M Fn Rb n c many C g cc wq) (fun vc _ => many - (intOf vc).toNat)
    case atStart => exact ⟨0, g, cc, Nat.zero_le _, rfl, Lib.hid (fun j hj => absurd hj (Nat.not_lt_zero _)), hst⟩
    case round =>
      clear hst cu0 ct0 cm0 hpt
      obtain ⟨d, g, cc, hd, rfl, HPRE, hst⟩ := hrel
      obtain ⟨wq, rfl⟩ : ∃ wq, wq = wr := ⟨_, rfl⟩
      by_cases hlt : d < many
      · have hlt' : decide ((d : Int) < (many : Int)) = true := by rw [decide_eq_true_eq]; omega
        have cu0 : wq.cell? ⟨U, 0, none⟩ = some (.slice (some ⟨g, 0, none⟩) C.length cc) := hst.u.cell 0
        have HM := Lib.hid (HME.out d g cc wq hst.below HCN.out (owns_cells hst.row))
        have HST := Lib.hid hst
        clear hst
        cases hfc : fitC near C d
        · have HP2 := Lib.hid (show ∀ j, j < d + 1 → colF near many k C j = none from rows_step HPRE.out (colF_no hfc))
          rw [hfc] at HM
          go_wp2_with (go_at_call 55; refine (HM.out).mono ?_; rintro e w3 ⟨rfl, hb3⟩)
          go_roundw
          case rel => exact ⟨d + 1, g, cc, by omega, by go_num, HP2, HST.out.step hb3⟩
          case measure => simp [intOf]; omega
        · have HCF := Lib.hid (colF_yes (many := many) (k := k) hfc)
          rw [hfc] at HM
          clear hfc
          go_upto_region 8 with (go_at_call 55; refine (HM.out).mono ?_; rintro e w3 ⟨rfl, hb3⟩)
          have hst3 := HST.out.step hb3
          have cu3 : w3.cell? ⟨U, 0, none⟩ = some (.slice (some ⟨g, 0, none⟩) C.length cc) := hst3.u.cell 0
          have HS3 := Lib.hid hst3
          have hrow := hst3.row
          have hbs := hst3.below.size
          have hb3' : C.length + 1 ≤ maxLen := by unfold maxLen; omega
          have hb4' : (C.length + 1) * 8 ≤ 140737488355328 := by omega
          clear hst3 HST cu0 hb3 HM
          have hne := HS3.out.ne
          have hneu := HS3.out.neu
          have hltU := HS3.out.u.lt
          have hltT := HS3.out.t.lt
          have hltM := HS3.out.m.lt
          have hltF := HS3.out.fn.lt
          go_upto_region 9 with (at_builtin; refine wpList_push _ rfl (.tmp 25) (.tmp 27) 31 rfl w.heap.size 3 it (.int .i64 0) 8 Try.underlying31 hti0 htz ht1 ht2 rfl _ C.length cc _ rfl (hrow.alloc _) _ _ _ rfl (cell_new _ _ _) rfl hb3' hb4' (by simp; omega) ?_; intro ro2 rc2 w4 hrow2 hg2 hnew2; have hu4 := (HS3.out.u.alloc (.cells #[.int .i64 (d : Nat)] 3)).kept hg2 (by simp only [Value.ownBlock, ne_eq, Option.some.injEq]; exact fun e => hne.1 e.symm); have cu4 : w4.cell? ⟨U, 0, none⟩ = some (.slice (some ⟨g, 0, none⟩) C.length cc) := hu4.cell 0; have fz4 := hu4.frozen 0)
          obtain ⟨g2, rfl⟩ : ∃ g2, ro2 = some ⟨g2, 0, none⟩ := by
            rcases hrow2.2 with ⟨h, h0⟩ | ⟨g, c, cur, h, _⟩
            · omega
            · simp only [Value.slice.injEq] at h; exact ⟨g, h.1⟩
          have hel : (C ++ [d]).length = C.length + 1 := by simp
          have hne2 : g2 ≠ U ∧ g2 ≠ T ∧ g2 ≠ M ∧ g2 ≠ Fn := by
            rcases hnew2 _ rfl with h' | h'
            · simp only [Option.some.injEq, Addr.mk.injEq, and_true] at h'; subst h'; exact hne
            · rw [World.size_alloc] at h'
              have h2 : w3.heap.size + 1 ≤ g2 := h'
              exact ⟨by omega, by omega, by omega, by omega⟩
          have hs5 : StP w U T M Fn Rb n c many (C ++ [d]) g2 rc2 (w4.setCell ⟨U, 0, none⟩ (.slice (some ⟨g2, 0, none⟩) (C.length + 1) rc2)) := by
            refine ⟨?_, ?_, ?_, ?_, ?_, hne2, hneu, ?_⟩
            · rw [hel]; exact hu4.set1 _
            · exact ((HS3.out.t.alloc _).kept hg2 (by simp only [Value.ownBlock, ne_eq, Option.some.injEq]; exact fun e => hne.2.1 e.symm)).other (a := ⟨U, 0, none⟩) hneu.1 _
            · exact ((HS3.out.m.alloc _).kept hg2 (by simp only [Value.ownBlock, ne_eq, Option.some.injEq]; exact fun e => hne.2.2.1 e.symm)).other (a := ⟨U, 0, none⟩) hneu.2.1 _
            · exact ((HS3.out.fn.alloc _).kept hg2 (by simp only [Value.ownBlock, ne_eq, Option.some.injEq]; exact fun e => hne.2.2.2 e.symm)).other (a := ⟨U, 0, none⟩) hneu.2.2.1 _
            · rw [hel, intsN_snoc]
              exact owns_kept' hrow2 (fun b hb => by simp only [Option.some.injEq] at hb; subst hb; exact hne2.1)
            · exact (below_push HS3.out.below hbs hg2 (fun b hb => (owns_lt hrow b hb).1)).setCell (p := ⟨U, 0, none⟩) hneu.2.2.2 _
          have HI := HIH.out (C ++ [d]) g2 rc2 _ (by rw [hel]; exact HCK.out) hs5
          have cf5 : (w4.setCell ⟨U, 0, none⟩ (.slice (some ⟨g2, 0, none⟩) (C.length + 1) rc2)).cell? ⟨Fn, 0, none⟩ = some (.func (.func 54) #[] #[.pointer (some ⟨U, 0, none⟩), .pointer (some ⟨T, 0, none⟩), .pointer (some ⟨M, 0, none⟩), .pointer (some ⟨Fn, 0, none⟩)]) := hs5.fn.cell 0
          have HHI := Lib.hid HI
          have HEL := Lib.hid hel
          clear hrow hrow2 hg2 hnew2 hu4 cu4 fz4 hel hne hne2 hltU hltT hltM hltF HI hs5 cu3 HS3 hb3' hb4'
          generalize (w4.setCell ⟨U, 0, none⟩ (.slice (some ⟨g2, 0, none⟩) (C.length + 1) rc2)) = W5 at *
          cases hres : colS near many k (C ++ [d]) with
          | none =>
            rw [hres] at HCF HHI
            have HP2 := Lib.hid (show ∀ j, j < d + 1 → colF near many k C j = none from rows_step HPRE.out HCF.out)
            clear hres
            go_upto_region 11 with (go_at_call 54; refine (HHI.out).mono ?_; rintro e w6 ⟨rfl, g6, cc6, hst6⟩)
            change StP w U T M Fn Rb n c many (C ++ [d]) g6 cc6 w6 at hst6
            have hrow6 := hst6.row
            have cu6 : w6.cell? ⟨U, 0, none⟩ = some (.slice (some ⟨g6, 0, none⟩) (C ++ [d]).length cc6) := hst6.u.cell 0
            have fz6 := hst6.u.frozen 0
            rw [HEL.out] at hrow6 cu6
            rw [intsN_snoc] at hrow6
            have hcut := owns_cut hrow6
            have hcc : C.length + 1 ≤ cc6 := by
              rcases hrow6.2 with ⟨hv, _⟩ | ⟨g', cap, cur, hv, _, _, hn, _⟩
              · cases hv
              · simp only [Value.slice.injEq, Option.some.injEq, Addr.mk.injEq, and_true, true_and] at hv
                obtain ⟨_, rfl⟩ := hv; exact hn
            have hc0 : ¬ cc6 = 0 := by omega
            have hst7 : StP w U T M Fn Rb n c many C g6 cc6 (w6.setCell ⟨U, 0, none⟩ (.slice (some ⟨g6, 0, none⟩) C.length cc6)) :=
              ⟨hst6.u.set1 _, hst6.t.other (a := ⟨U, 0, none⟩) hneu.1 _, hst6.m.other (a := ⟨U, 0, none⟩) hneu.2.1 _, hst6.fn.other (a := ⟨U, 0, none⟩) hneu.2.2.1 _,
               owns_kept' hcut (fun b hb => by simp only [Option.some.injEq] at hb; subst hb; exact hst6.ne.1), hst6.ne, hneu, hst6.below.setCell (p := ⟨U, 0, none⟩) hneu.2.2.2 _⟩
            have HS7 := Lib.hid hst7
            have hcl : (C.length : Int) ≤ (cc6 : Int) := by omega
            clear hst6 hrow6 hcut hst7 cf5 HHI HEL
            go_wp2
            go_roundw
            case rel => exact ⟨d + 1, g6, cc6, by omega, by go_num, HP2, HS7.out⟩
            case measure => simp [intOf]; omega
          | some L =>
            rw [hres] at HCF HHI
            have HFI := Lib.hid (HFS.out d HPRE.out hlt _ HCF.out)
            clear hres
            go_wp2_with (go_at_call 54; refine (HHI.out).mono ?_; rintro e w6 ⟨rfl, g6, cc6, hst6⟩)
            go_ret
            rw [HFI.out]
            exact ⟨rfl, g6, cc6, hst6⟩
      · have hlt' : decide ((d : Int) < (many : Int)) = false := by rw [decide_eq_false_iff_not]; omega
        obtain rfl : d = many := by omega
        have HN := Lib.hid (HFN.out HPRE.out)
        have HST := Lib.hid hst
        clear hst
        go_wp2
        go_ret
        rw [HN.out]
        exact ⟨rfl, g, cc, HST.out⟩
end Go.Proofs.Ytgiikdcjigcnlaa
