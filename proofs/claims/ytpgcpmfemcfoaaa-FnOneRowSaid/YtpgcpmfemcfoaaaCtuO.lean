/-
  The model's CountOrders. (Walks.)
-/
import Derived.Test.YtpgcpmfemcfoaaaCtrO

namespace Go.Proofs.Ytpgcpmfemcfoaaa
open Go.RowKit

/-- numbers in a block of numbers -/
def IntB (w : World) (bo : Option Addr) (l : List Int) : Prop :=
  ∃ b off cur, bo = some ⟨b, off, none⟩ ∧ w.heap[b]? = some (.cells cur 3 (0, 0)) ∧ ∀ j v, (l.map (Value.int .i64))[j]? = some v → cur[off + j]? = some v
theorem IntB.cells {w : World} {bo : Option Addr} {l : List Int} (h : IntB w bo l) : CellsAt w bo (l.map (Value.int .i64)) := fun i u hu => by
  obtain ⟨b, off, cur, rfl, hb, hc⟩ := h
  exact ⟨b, off, rfl, by rw [cell_of_row w b (off + i) cur 3 (0, 0) hb]; exact hc i u hu⟩
theorem IntB.kept {w w' : World} {bo : Option Addr} {l : List Int} (h : IntB w bo l) (hk : ∀ (b : Nat) (cur : Array Value), w.heap[b]? = some (Obj.cells cur 3 (0, 0)) → w'.heap[b]? = w.heap[b]?) : IntB w' bo l := by
  obtain ⟨b, off, cur, rfl, hb, hc⟩ := h
  exact ⟨b, off, cur, rfl, (hk b cur hb).trans hb, hc⟩
theorem IntB.of {w : World} {base n cap : Nat} {ao : Option Addr} {l : List Int} (h : w.ownsRow base 3 1 (.slice ao n cap) n (l.map (Value.int .i64))) (hn : 0 < n) : IntB w ao l := by
  rcases h.2 with ⟨hv, h0⟩ | ⟨g, c, cur, hv, _, hg, _, _, _, ht⟩
  · omega
  · simp only [Value.slice.injEq] at hv
    obtain ⟨rfl, _, _⟩ := hv
    refine ⟨g, 0, cur, rfl, hg, fun j v hj => ?_⟩
    rw [← ht, List.getElem?_take] at hj
    split at hj
    · rw [Nat.zero_add]; simpa using hj
    · cases hj
/-- lists of numbers, told by where they begin -/
def IntsV (w : World) (us : List Value) (L : List (List Int)) : Prop :=
  us.length = L.length ∧ ∀ (i : Nat) (l : List Int), L[i]? = some l → ∃ bo c, us[i]? = some (.slice bo l.length c) ∧ IntB w bo l
theorem IntsV.nil (w : World) : IntsV w [] [] := ⟨rfl, fun i l h => by simp at h⟩
theorem IntsV.kept {w w' : World} {us : List Value} {L : List (List Int)} (h : IntsV w us L) (hk : ∀ (b : Nat) (cur : Array Value), w.heap[b]? = some (Obj.cells cur 3 (0, 0)) → w'.heap[b]? = w.heap[b]?) : IntsV w' us L :=
  ⟨h.1, fun i l hl => by obtain ⟨bo, c, h1, h2⟩ := h.2 i l hl; exact ⟨bo, c, h1, h2.kept hk⟩⟩
theorem IntsV.below {w w' : World} {us : List Value} {L : List (List Int)} (h : IntsV w us L) (hb : Below w.heap.size w w') : IntsV w' us L :=
  h.kept fun b _ hc => hb.block b (Array.getElem?_eq_some_iff.1 hc).1
theorem IntB.below {w w' : World} {bo : Option Addr} {l : List Int} (h : IntB w bo l) (hb : Below w.heap.size w w') : IntB w' bo l :=
  h.kept fun b _ hc => hb.block b (Array.getElem?_eq_some_iff.1 hc).1
theorem IntsV.grown {w w' : World} {us : List Value} {L : List (List Int)} {g : Nat} {cur : Array Value} (h : IntsV w us L) (hg : w.grownBy w' (some g)) (ht : w.heap[g]? = some (.cells cur 32 (0, 0))) : IntsV w' us L :=
  h.kept fun b c hc => hg.block b (Array.getElem?_eq_some_iff.1 hc).1 (fun e => by
    simp only [Option.some.injEq] at e
    subst e
    rw [ht] at hc
    simp at hc)
theorem IntsV.snoc {w : World} {us : List Value} {L : List (List Int)} {bo : Option Addr} {c : Nat} {l : List Int} (h : IntsV w us L) (k : IntB w bo l) : IntsV w (us ++ [.slice bo l.length c]) (L ++ [l]) := by
  refine ⟨by rw [List.length_append, List.length_append, h.1]; rfl, fun i m hm => ?_⟩
  rcases Nat.lt_or_ge i L.length with hi | hi
  · rw [List.getElem?_append_left hi] at hm
    rw [List.getElem?_append_left (by rw [h.1]; exact hi)]
    exact h.2 i m hm
  · rw [List.getElem?_append_right hi] at hm
    rw [List.getElem?_append_right (by rw [h.1]; exact hi), h.1]
    cases hd : i - L.length with
    | zero =>
      rw [hd] at hm
      simp only [List.getElem?_cons_zero, Option.some.injEq] at hm
      subst hm
      exact ⟨bo, c, rfl, k⟩
    | succ d => rw [hd] at hm; simp at hm
/-- the list of all plans and its block's type -/
def AllT (w : World) (g : Nat) (us : List Value) (h wd : Nat) : Prop := AllAt w g us h wd ∧ ∃ cur, w.heap[g]? = some (.cells cur 23 (0, 0))
theorem AllT.below {w w' : World} {g : Nat} {us : List Value} {h wd : Nat} (A : AllT w g us h wd) (hb : Below w.heap.size w w') : AllT w' g us h wd := by
  obtain ⟨a, cur, hc⟩ := A
  exact ⟨a.below hb, cur, (hb.block g (Array.getElem?_eq_some_iff.1 hc).1).trans hc⟩
theorem AllT.grown {w w' : World} {g G : Nat} {us : List Value} {h wd : Nat} {cur : Array Value} (A : AllT w g us h wd) (hg : w.grownBy w' (some G)) (ht : w.heap[G]? = some (.cells cur 32 (0, 0))) : AllT w' g us h wd := by
  obtain ⟨a, cu, hc⟩ := A
  have hne : g ≠ G := fun e => by
    subst e
    rw [ht] at hc
    simp at hc
  have hk : ∀ (b : Nat) (c : Array Value) (t : TypeId), t ≠ 32 → w.heap[b]? = some (Obj.cells c t (0, 0)) → w'.heap[b]? = w.heap[b]? := fun b c t hn2 hb => hg.block b (Array.getElem?_eq_some_iff.1 hb).1 (fun e => by
    simp only [Option.some.injEq] at e
    subst e
    rw [ht] at hb
    simp only [Option.some.injEq, Obj.cells.injEq] at hb
    exact hn2 hb.2.1.symm)
  have hgk := hk g cu _ (by decide) hc
  refine ⟨⟨fun i u hu => ?_, a.plans.kept fun b c hb => hk b c _ (by decide) hb⟩, cu, hgk.trans hc⟩
  obtain ⟨b, off, e, hcl⟩ := a.cells i u hu
  cases e
  refine ⟨g, 0, rfl, ?_⟩
  rw [cell_of_row w g (0 + i) cu 23 (0, 0) hc] at hcl
  rw [cell_of_row w' g (0 + i) cu 23 (0, 0) (hgk.trans hc)]
  exact hcl
/-- the permutations told along a list of texts -/
def prmT (rooms : Nat) (L : List (List ByteArray)) : List (List Int) := (L.filter (ordQ rooms)).map fun p => intsL (permL p)
theorem prmT_all (h wd rooms : Nat) : prmT rooms (lstT h wd (allZ h wd)) = ordM h wd rooms := by
  unfold prmT ordM lstT asked prmZ
  rw [List.filter_map, List.map_map]
  rfl
theorem prmT_yes {rooms : Nat} (L : List (List ByteArray)) {p : List ByteArray} (hq : ordQ rooms p = true) : prmT rooms (L ++ [p]) = prmT rooms L ++ [intsL (permL p)] := by
  unfold prmT; rw [List.filter_append, List.map_append]; simp [hq]
theorem prmT_no {rooms : Nat} (L : List (List ByteArray)) {p : List ByteArray} (hq : ordQ rooms p = false) : prmT rooms (L ++ [p]) = prmT rooms L := by
  unfold prmT; rw [List.filter_append]; simp [hq]
theorem prmT_len (rooms : Nat) (L : List (List ByteArray)) : (prmT rooms L).length ≤ L.length := by
  unfold prmT; rw [List.length_map]; exact List.length_filter_le _ _
theorem firsts_le {α : Type} [DecidableEq α] (L : List α) : (firsts L).length ≤ L.length := by
  induction L using snoc_ind with
  | h0 => exact Nat.le_refl _
  | h1 l x ih => rw [firsts_len_snoc, List.length_append]; split <;> simp <;> omega
theorem Try.infoInts : (Try.prog.info? 32).map (fun i => (i.zero, i.size, i.bytes)) = some (some (.slice none 0 0), 1, 24) := by kernel_rfl
theorem prmT_step {rooms : Nat} (L : List (List ByteArray)) {i : Nat} (hi : i < L.length) : firsts (prmT rooms (L.take (i + 1))) = if ordQ rooms (L.getD i []) = true ∧ intsL (permL (L.getD i [])) ∉ firsts (prmT rooms (L.take i)) then firsts (prmT rooms (L.take i)) ++ [intsL (permL (L.getD i []))] else firsts (prmT rooms (L.take i)) := by
  rw [take_succ_getD L i [] hi]
  cases hq : ordQ rooms (L.getD i [])
  · rw [prmT_no _ hq, if_neg (by simp)]
  · rw [prmT_yes _ hq, firsts_snoc]
    by_cases hm : intsL (permL (L.getD i [])) ∈ firsts (prmT rooms (L.take i))
    · rw [if_pos hm, if_neg (fun h => h.2 hm)]
    · rw [if_neg hm, if_pos ⟨rfl, hm⟩]
theorem prmT_few {rooms : Nat} {L : List (List ByteArray)} {x : List Int} (h : x ∈ prmT rooms L) : x.length ≤ 9 := by
  unfold prmT at h
  obtain ⟨p, _, rfl⟩ := List.mem_map.1 h
  rw [intsL_len, permL_len]
  exact oR_le _
theorem IntB.grown {w w' : World} {bo : Option Addr} {l : List Int} {g : Nat} {cur : Array Value} (h : IntB w bo l) (hg : w.grownBy w' (some g)) (ht : w.heap[g]? = some (.cells cur 32 (0, 0))) : IntB w' bo l :=
  h.kept fun b c hc => hg.block b (Array.getElem?_eq_some_iff.1 hc).1 (fun e => by
    simp only [Option.some.injEq] at e
    subst e
    rw [ht] at hc
    simp at hc)
theorem mem_take_succ {T : List (List Int)} {k : Nat} (hk : k < T.length) (P : List Int) : decide (P ∈ T.take (k + 1)) = (decide (P ∈ T.take k) || decide (T.getD k [] = P)) := by
  rw [take_succ_getD T k [] hk]
  by_cases h1 : P ∈ T.take k
  · rw [decide_eq_true h1, Bool.true_or, decide_eq_true (List.mem_append_left _ h1)]
  · rw [decide_eq_false h1, Bool.false_or]
    by_cases h2 : T.getD k [] = P
    · rw [decide_eq_true h2, decide_eq_true (List.mem_append_right _ (by rw [h2]; exact List.mem_singleton.2 rfl))]
    · rw [decide_eq_false h2, decide_eq_false (fun h => by
        rcases List.mem_append.1 h with h | h
        · exact h1 h
        · exact h2 (List.mem_singleton.1 h).symm)]
theorem Quiet.bel {w w' : World} (h : Quiet w w') (n : Nat) : Below n w w' := by obtain ⟨k, rfl⟩ := h; exact below_drewN _ _ _
theorem ints_some {p : List ByteArray} (h : plainB p = true) : 0 < (intsL (permL p)).length := by
  rw [intsL_len, permL_len]
  unfold oR
  rw [if_pos h]
  exact rooms_pos (plainB_plan h)

set_option maxRecDepth 100000 in
set_option maxHeartbeats 8000000 in
theorem specCountOrders_yes {h wd rooms : Nat} (d1 : 1 ≤ h) (d6 : h ≤ 6) (e1 : 1 ≤ wd) (e6 : wd ≤ 6) (h9 : h * wd ≤ 9) (r1 : 1 ≤ rooms) (r7 : rooms ≤ 7) (w : World) :
    Calls Try.prog 25 #[.int .i64 (h : Int), .int .i64 (wd : Int), .int .i64 (rooms : Int)] w fun e w' => e = .returned (.tuple #[.int .i64 ((ordN h wd rooms : Nat) : Int), .bool true]) ∧ Below w.heap.size w w' := by
  obtain ⟨it, hti0, htz, ht1, ht2⟩ := info_parts Try.infoInts
  have HG := Lib.hid (fun w => l10Given_any (h : Int) (wd : Int) w)
  rw [(frOk_of d1 d6 e1 e6 h9).1] at HG
  have HIN := Lib.hid (fun w => l6In_any (rooms : Int) 1 7 w)
  have hb6 : l6B (rooms : Int) 1 7 = true := by unfold l6B; simp; omega
  rw [hb6] at HIN
  have HPS := Lib.hid (fun w => l5Plans_any d1 d6 e6 h9 w)
  have HLF := Lib.hid (fun i hi => lstT_leaf d1 d6 e1 e6 h9 (i := i) hi)
  have HAT := Lib.hid (fun w g us (A : AllAt w g us h wd) i hi => A.at (i := i) hi)
  have HLE := Lib.hid (show (lstT h wd (allZ h wd)).length ≤ 1000000 by rw [lstT_len]; exact allZ_few d6 e6 h9)
  have HFE := Lib.hid (show firsts (prmT rooms (lstT h wd (allZ h wd))) = firsts (ordM h wd rooms) by rw [prmT_all])
  have HST := Lib.hid (fun i hi => prmT_step (rooms := rooms) (lstT h wd (allZ h wd)) (i := i) hi)
  have HFB := Lib.hid (fun i => show (firsts (prmT rooms ((lstT h wd (allZ h wd)).take i))).length ≤ 1000000 from Nat.le_trans (firsts_le _) (Nat.le_trans (prmT_len _ _) (by rw [List.length_take]; have := HLE.out; omega)))
  have HF0 := Lib.hid (show firsts (prmT rooms ((lstT h wd (allZ h wd)).take 0)) = [] from rfl)
  have HFA := Lib.hid (show firsts (prmT rooms ((lstT h wd (allZ h wd)).take (lstT h wd (allZ h wd)).length)) = firsts (ordM h wd rooms) by rw [List.take_length]; exact HFE.out)
  have HSQ := Lib.hid (fun q => show ordQ rooms q = (decide (gridR q = rooms) && plainB q) from rfl)
  have HL9 := Lib.hid (fun q => show (intsL (permL q)).length ≤ 9 by rw [intsL_len, permL_len]; exact oR_le _)
  have HFW := Lib.hid (fun i => show ∀ x ∈ firsts (prmT rooms ((lstT h wd (allZ h wd)).take i)), x.length ≤ 9 from fun x hx => prmT_few (by rwa [mem_firsts] at hx))
  have HPO := Lib.hid (fun q (hq : plainB q = true) => ints_some hq)
  unfold ordN
  clear HFE
  obtain ⟨F, hF⟩ : ∃ F : Nat → List (List Int), F = fun i => firsts (prmT rooms ((lstT h wd (allZ h wd)).take i)) := ⟨_, rfl⟩
  have HFi : ∀ i, firsts (prmT rooms ((lstT h wd (allZ h wd)).take i)) = F i := fun i => by rw [hF]
  simp only [HFi] at HST HFB HF0 HFA HFW
  clear hF HFi
  generalize ordM h wd rooms = M at *
  generalize ordQ rooms = OQ at *
  have hr0 : (w.alloc (.cells #[] 32)).ownsRow w.heap.size 32 1 (.slice (some ⟨w.heap.size, 0, none⟩) 0 0) 0 [] := World.ownsRow_made w #[] 0 (Nat.le_refl _) (Nat.zero_le _) rfl
  have hb0 := below_alloc w (.cells #[] 32)
  go_enter Try.func25, Try.ntmps25
  go_wp2_with (first
    | (go_at_call 45; refine (HG.out _).mono ?_; rintro e w1 ⟨rfl, rfl⟩)
    | (go_at_call 55; refine (HIN.out _).mono ?_; rintro e w2 ⟨rfl, rfl⟩)
    | (go_at_call 38; refine (HPS.out _).mono ?_; rintro e w3 ⟨⟨g0, c0, us0, rfl, hr, hpv⟩, hb3⟩))
  have hr3 := ownsRow_below hr0 hb3
  have hA0 : AllT w3 g0 us0 h wd := ⟨⟨(own_at hr).2.1, hpv⟩, (own_at hr).1⟩
  have hB3 := below_step hb0 hb0.size hb3
  clear hr hpv hb3 hr0 hb0 HPS HG HIN hb6
  generalize hLL : lstT h wd (allZ h wd) = L at *
  clear hLL
  have hLle := HLE.out
  have hr30 : w3.ownsRow w2.heap.size 32 1 (.slice (some ⟨w2.heap.size, 0, none⟩) (F 0).length 0) (F 0).length [] := by rw [HF0.out]; exact hr3
  have hv30 : IntsV w3 [] (F 0) := by rw [HF0.out]; exact IntsV.nil _
  have HZ := Lib.hid (show (F 0).length = 0 by rw [HF0.out]; rfl)
  clear hr3 HF0
  go_loopw [8, 10] (fun vm vi wr => ∃ (i g c : Nat) (us : List Value), i ≤ L.length ∧ vi = .int .i64 (i : Int) ∧ vm = .slice (some ⟨g, 0, none⟩) (F i).length c ∧ wr.ownsRow w2.heap.size 32 1 (.slice (some ⟨g, 0, none⟩) (F i).length c) (F i).length us ∧ IntsV wr us (F i) ∧ AllT wr g0 us0 h wd ∧ Below w2.heap.size w2 wr) (fun _ vi _ => L.length - (intOf vi).toNat)
  case atStart => exact ⟨0, w2.heap.size, 0, [], Nat.zero_le _, rfl, by rw [HZ.out], hr30, hv30, hA0, hB3⟩
  case round =>
    clear hr30 hv30 hA0 hB3 HZ
    obtain ⟨i, g, c, us, hi, rfl, rfl, hrow, hiv, hA, hB⟩ := hrel
    by_cases hlt : i < L.length
    · have hlt' : decide ((i : Int) < (L.length : Int)) = true := by rw [decide_eq_true_eq]; omega
      obtain ⟨hqp, hqh⟩ := HLF.out i hlt
      obtain ⟨bo, cc, hcell, hqc⟩ := HAT.out wr g0 us0 hA.1 i hlt
      have HS2 := HST.out i hlt
      obtain ⟨sq1, sq2⟩ := plan_small hqp
      have HQE := HSQ.out (L.getD i [])
      have HLQ := HL9.out (L.getD i [])
      have HPQ := Lib.hid (HPO.out (L.getD i []))
      generalize L.getD i [] = q at *
      rw [HQE] at HS2
      have HRO := Lib.hid (fun w hc => by have := l1Rooms_any bo cc q w sq1 sq2 hc; rw [(planP_of hqp).rooms] at this; exact this)
      have HCA := Lib.hid (fun w hc => l5Plain_any bo cc q w sq1 sq2 hc)
      have HPM := Lib.hid (fun hpl w hc => l5Perm_any bo cc q w sq1 sq2 hpl hc)
      rw [hqh] at HRO HCA HPM
      clear HQE hqh sq1 sq2 hqp
      by_cases hro : gridR q = rooms
      · have hre : ((rooms : Int) == (rooms : Int)) = true := by simp
        rw [hro] at HRO HS2
        rw [show decide (rooms = rooms) = true from decide_eq_true rfl, Bool.true_and] at HS2
        cases hq : plainB q
        · rw [hq] at HCA HS2
          have HE := Lib.hid (HS2.trans (if_neg (fun h => by cases h.1)))
          clear HS2 hq HPM HPQ hro
          go_wp2_with (first
            | (go_at_call 56; refine (HRO.out _ hqc).mono ?_; rintro e w9 ⟨rfl, rfl⟩)
            | (go_at_call 36; refine (HCA.out _ hqc).mono ?_; rintro e w4 ⟨rfl, hb4⟩))
          go_roundw
          case rel => exact ⟨i + 1, g, c, us, by omega, by go_num, by rw [HE.out], by rw [HE.out]; exact ownsRow_below hrow hb4, by rw [HE.out]; exact hiv.below hb4, hA.below hb4, below_step hB hB.size hb4⟩
          case measure => simp [intOf]; omega
        · rw [hq] at HCA HS2
          have HPM := Lib.hid (HPM.out hq)
          have hpq := HPQ.out hq
          have hTb := HFB.out i
          have HTW := Lib.hid (HFW.out i)
          replace HS2 := Lib.hid HS2
          clear hq HPQ hro HFB HFW HSQ HPO HL9 HST
          generalize intsL (permL q) = P at *
          generalize hT : F i = T at *
          have HT := Lib.hid hT
          clear hT
          go_wp2_with (first
            | (go_at_call 56; refine (HRO.out _ hqc).mono ?_; rintro e w9 ⟨rfl, rfl⟩)
            | (go_at_call 36; refine (HCA.out _ hqc).mono ?_; rintro e w4 ⟨rfl, hb4⟩; have hc4 := (hb4.cell (p := ⟨g0, i, none⟩) (World.block_lt_of_cell? _ _ hcell)).trans hcell)
            | (go_at_call 37; refine (HPM.out _ (hqc.below hb4)).mono ?_; rintro e w5 ⟨qo, qc, rfl, hqo, hb5⟩; clear hc4))
          have hrow5 := ownsRow_below (ownsRow_below hrow hb4) hb5
          have hiv5 := (hiv.below hb4).below hb5
          have hA5 := (hA.below hb4).below hb5
          have hB4 := below_step hB hB.size hb4
          have hB5 := below_step hB4 hB4.size hb5
          have hP5 := IntB.of hqo hpq
          clear hrow hiv hA hB hB4 hb4 hb5 hqo hcell hqc HPM HCA HRO
          have HI0 := Lib.hid (show decide (P ∈ T.take 0) = false by simp)
          go_loopw [12, 13] (fun vin vk wq => ∃ k : Nat, k ≤ T.length ∧ vk = .int .i64 (k : Int) ∧ vin = .bool (decide (P ∈ T.take k)) ∧ Quiet w5 wq) (fun _ vk _ => T.length - (intOf vk).toNat)
          case atStart => exact ⟨0, Nat.zero_le _, rfl, by rw [HI0.out], Quiet.refl _⟩
          case round =>
            obtain ⟨k, hk, rfl, rfl, hqt⟩ := hrel
            have hbq := hqt.bel w5.heap.size
            by_cases hkt : k < T.length
            · have hkt' : decide ((k : Int) < (T.length : Int)) = true := by rw [decide_eq_true_eq]; omega
              have hmt := mem_take_succ hkt P
              have hSm : T.getD k [] ∈ T := by rw [List.getD_eq_getElem?_getD, List.getElem?_eq_getElem hkt]; exact List.getElem_mem hkt
              have hS9 := HTW.out _ hSm
              obtain ⟨so, sc, hus, hSB⟩ := hiv5.2 k (T.getD k []) (by rw [List.getD_eq_getElem?_getD, List.getElem?_eq_getElem hkt]; rfl)
              obtain ⟨b', o', e', hcs⟩ := (own_at hrow5).2.1 k _ hus
              cases e'
              rw [Nat.zero_add] at hcs
              have hcs2 := (hbq.cell (p := ⟨g, k, none⟩) (World.block_lt_of_cell? _ _ hcs)).trans hcs
              have hSq := (hSB.below hbq).cells
              have hPq := (hP5.below hbq).cells
              clear hcs hus hSB hSm
              generalize T.getD k [] = S at *
              cases hin : decide (P ∈ T.take k)
              · rw [hin, Bool.false_or] at hmt
                have HM := Lib.hid hmt
                have HEQ := Lib.hid (l5Equal_any so qo sc qc S.length P.length S P wr rfl rfl (by omega) hSq hPq)
                clear hmt hin hSq hPq
                go_wp2_with (go_at_call 39; refine HEQ.out.mono ?_; rintro e w6 ⟨rfl, hq6⟩)
                go_roundw
                case rel => exact ⟨k + 1, by omega, by go_num, by rw [HM.out], hqt.trans hq6⟩
                case measure => simp [intOf]; omega
              · rw [hin, Bool.true_or] at hmt
                have HM := Lib.hid hmt
                clear hmt hin hSq hPq
                go_wp2
                go_roundw
                case rel => exact ⟨k + 1, by omega, by go_num, by rw [HM.out], hqt⟩
                case measure => simp [intOf]; omega
            · obtain rfl : k = T.length := by omega
              have hkt' : decide ((T.length : Int) < (T.length : Int)) = false := by rw [decide_eq_false_iff_not]; omega
              have HTL := Lib.hid (show T.take T.length = T from List.take_length)
              have hrow6 := ownsRow_below hrow5 hbq
              have hiv6 := hiv5.below hbq
              have hA6 := hA5.below hbq
              have hB6 := below_step hB5 hB5.size hbq
              have hP6 := hP5.below hbq
              have hsz := hB6.size
              rw [HTL.out]
              clear hrow5 hiv5 hA5 hB5 hP5 hbq hqt HI0 HTW
              by_cases hm : P ∈ T
              · have HE := Lib.hid (HS2.out.trans (if_neg (fun h => h.2 hm)))
                rw [decide_eq_true hm]
                clear hm
                go_wp2
                go_roundw
                case rel => exact ⟨i + 1, g, c, us, by omega, by go_num, by rw [HE.out], by rw [HE.out]; exact hrow6, by rw [HE.out]; exact hiv6, hA6, hB6⟩
                case measure => simp [intOf]; omega
              · have HE := Lib.hid (HS2.out.trans (if_pos ⟨by simp, hm⟩))
                rw [decide_eq_false hm]
                have HEL := Lib.hid (show (F (i + 1)).length = T.length + 1 by rw [HE.out, List.length_append]; rfl)
                have hrow7 := hrow6.alloc (.cells #[.slice qo P.length qc] 32)
                have hiv7 := hiv6.below (below_alloc wr (.cells #[.slice qo P.length qc] 32))
                have hA7 := hA6.below (below_alloc wr (.cells #[.slice qo P.length qc] 32))
                have hP7 := hP6.below (below_alloc wr (.cells #[.slice qo P.length qc] 32))
                have hB7 := hB6.alloc hsz (.cells #[.slice qo P.length qc] 32)
                have hcn := (own_at (owns_lit wr 0 32 [.slice qo P.length qc] (Nat.zero_le _) (by unfold maxLen; simp))).2.1
                obtain ⟨⟨cur, hcur⟩, -, hgb⟩ := own_at hrow7
                have hsz7 := hB7.size
                generalize hTL : T.length = n at *
                have HN := Lib.hid hTL
                clear hm hTL hrow6 hiv6 hA6 hP6 hB6
                go_wp2_with (at_builtin; refine wpList_pushS _ rfl (.tmp 70) (.tmp 72) 90 rfl w2.heap.size 32 it _ 24 (by kernel_rfl) hti0 htz ht1 ht2 rfl g n c us rfl hrow7 [.slice qo P.length qc] 1 wr.heap.size 1 rfl rfl hcn (by intro v hv; rw [List.mem_singleton] at hv; subst hv; rfl) (by unfold maxLen; omega) (by omega) hsz7 ?_; intro g' cap' w7 hr7 hg7)
                go_roundw
                case rel => exact ⟨i + 1, g', cap', us ++ [.slice qo P.length qc], by omega, by go_num, by rw [HEL.out], by rw [HEL.out]; exact hr7, by rw [HE.out]; exact (hiv7.grown hg7 hcur).snoc (hP7.grown hg7 hcur), hA7.grown hg7 hcur, hB7.trans (below_of_grownBy hg7 hsz7 (fun k hk => by simp only [Option.some.injEq] at hk; omega))⟩
                case measure => simp [intOf]; omega
      · have hre : ((gridR q : Int) == (rooms : Int)) = false := by rw [beq_eq_false_iff_ne]; omega
        rw [decide_eq_false hro, Bool.false_and] at HS2
        have HE := Lib.hid (HS2.trans (if_neg (fun h => by cases h.1)))
        clear HS2 HPM HPQ
        have hre2 : (gridR q == rooms) = false := by rw [beq_eq_false_iff_ne]; exact hro
        generalize gridR q = r at *
        go_wp2_with (go_at_call 56; refine (HRO.out _ hqc).mono ?_; rintro e w9 ⟨rfl, rfl⟩)
        go_roundw
        case rel => exact ⟨i + 1, g, c, us, by omega, by go_num, by rw [HE.out], by rw [HE.out]; exact hrow, by rw [HE.out]; exact hiv, hA, hB⟩
        case measure => simp [intOf]; omega
    · obtain rfl : i = L.length := by omega
      have hlt' : decide ((L.length : Int) < (L.length : Int)) = false := by rw [decide_eq_false_iff_not]; omega
      have hfb := HFB.out L.length
      rw [HFA.out] at hfb
      have HFL := Lib.hid (show (F L.length).length = (firsts M).length by rw [HFA.out])
      clear hrow hiv hA
      generalize (F L.length).length = n at *
      go_wp2
      go_ret2
      exact ⟨by rw [← HFL.out]; rfl, hB⟩
set_option maxRecDepth 100000 in
theorem specCountOrders_any (n m k : Int) (w : World) : Calls Try.prog 25 #[.int .i64 n, .int .i64 m, .int .i64 k] w fun e w' => e = .returned (.tuple #[.int .i64 (ordR n m k), .bool (ordOk n m k)]) ∧ Below w.heap.size w w' := by
  cases h : ordOk n m k
  · have e0 : ordR n m k = 0 := by unfold ordR; rw [h]; rfl
    rw [e0]
    unfold ordOk at h
    clear e0
    have HG := Lib.hid (fun w => l10Given_any n m w)
    cases h1 : frOk n m
    · rw [h1] at HG
      clear h h1
      go_enter Try.func25, Try.ntmps25
      go_wp2_with (go_at_call 45; refine (HG.out _).mono ?_; rintro e w1 ⟨rfl, rfl⟩)
      go_ret2
      exact ⟨rfl, Below.refl _ _⟩
    · rw [h1, Bool.true_and] at h
      rw [h1] at HG
      have HIN := Lib.hid (fun w => l6In_any k 1 7 w)
      rw [show l6B k 1 7 = isN k by unfold l6B isN; exact Bool.decide_and _ _, h] at HIN
      clear h h1
      go_enter Try.func25, Try.ntmps25
      go_wp2_with (first
        | (go_at_call 45; refine (HG.out _).mono ?_; rintro e w1 ⟨rfl, rfl⟩)
        | (go_at_call 55; refine (HIN.out _).mono ?_; rintro e w2 ⟨rfl, rfl⟩))
      go_ret2
      exact ⟨rfl, Below.refl _ _⟩
  · have h0 := h
    unfold ordOk at h
    rw [Bool.and_eq_true] at h
    obtain ⟨h1, h2⟩ := h
    obtain ⟨a, b, rfl, rfl, a1, a6, b1, b6, h9⟩ := frOk_dims h1
    unfold isN at h2
    rw [Bool.and_eq_true, decide_eq_true_eq, decide_eq_true_eq] at h2
    obtain ⟨r, rfl⟩ := Int.eq_ofNat_of_zero_le (show 0 ≤ k by omega)
    have := specCountOrders_yes (rooms := r) a1 a6 b1 b6 h9 (by omega) (by omega) w
    unfold ordR
    rw [h0, if_pos rfl]
    exact this
end Go.Proofs.Ytpgcpmfemcfoaaa
