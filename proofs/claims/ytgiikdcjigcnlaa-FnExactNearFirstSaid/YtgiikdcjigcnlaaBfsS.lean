
/-
  The fewest steps from a room to all others: the model's answer. (Walk.)
-/
import Derived.Test.YtgiikdcjigcnlaaNearb
import Derived.Test.YtgiikdcjigcnlaaBfs
import Derived.BigRegion

namespace Go.Proofs.Ytgiikdcjigcnlaa
open Go.RowKit

/-- the neighbours of a room, by how long rooms lie beside each other -/
def adjF (f : Nat → Nat → Nat) (n y : Nat) : List Nat := (List.range n).filter fun b => decide (0 < f y b)
theorem adjF_lt (f : Nat → Nat → Nat) (n y : Nat) : ∀ x ∈ adjF f n y, x < n := fun x hx => by
  unfold adjF at hx; exact List.mem_range.1 (List.mem_filter.1 hx).1
theorem adjF_len (f : Nat → Nat → Nat) (n y : Nat) : (adjF f n y).length ≤ n := by
  unfold adjF; have := List.length_filter_le (fun b => decide (0 < f y b)) (List.range n); simpa using this
/-- how long two rooms lie beside each other -/
def bsF (p : List ByteArray) (a b : Nat) : Nat := besN p (a : Int) (b : Int)
theorem ofL_adj (p : List ByteArray) (n y : Nat) : ofL p (y : Int) n = (adjF (bsF p) n y).map fun (b : Nat) => (b : Int) := rfl

/-- the steps as they are written: none for rooms that are not reached -/
def outB (D : Nat → Nat) (n : Nat) : List Int := (List.range n).map fun b => ((D b : Nat) : Int) - 1
theorem outB_len (D : Nat → Nat) (n : Nat) : (outB D n).length = n := by simp [outB]
theorem outB_at {D : Nat → Nat} {n b : Nat} (h : b < n) : ((outB D n).map (Value.int .i64))[b]? = some (.int .i64 (((D b : Nat) : Int) - 1)) := by simp [outB, h]
theorem outB_upd {D : Nat → Nat} {n x : Nat} (v : Nat) (h : x < n) : (outB (updD D x v) n).map (Value.int .i64) = ((outB D n).map (Value.int .i64)).set x (.int .i64 ((v : Int) - 1)) := by
  apply List.ext_getElem?
  intro i
  rw [List.getElem?_set]
  by_cases hi : i < n
  · rw [outB_at hi]
    by_cases he : x = i
    · subst he
      rw [if_pos rfl, if_pos (by simpa [outB_len] using h), updD_self]
    · rw [if_neg he, outB_at hi, updD_other _ _ (Ne.symm he)]
  · rw [List.getElem?_eq_none (by rw [List.length_map, outB_len]; omega)]
    rw [if_neg (by omega), List.getElem?_eq_none (by rw [List.length_map, outB_len]; omega)]
theorem outB_start {n a : Nat} (h : a < n) : (outB (fun y => if y = a then 1 else 0) n).map (Value.int .i64) = ((List.replicate n (-1 : Int)).map (Value.int .i64)).set a (.int .i64 0) := by
  apply List.ext_getElem?
  intro i
  rw [List.getElem?_set]
  by_cases hi : i < n
  · rw [outB_at hi]
    by_cases he : a = i
    · subst he; rw [if_pos rfl, if_pos rfl, if_pos (by simpa using h)]; rfl
    · rw [if_neg he, if_neg (Ne.symm he)]
      simp [hi]
  · rw [List.getElem?_eq_none (by rw [List.length_map, outB_len]; omega)]
    rw [if_neg (by omega), List.getElem?_eq_none (by simp; omega)]
/-- numbers as they stand in memory -/
def intsN (L : List Nat) : List Value := L.map fun (b : Nat) => Value.int .i64 (b : Int)
theorem intsN_len (L : List Nat) : (intsN L).length = L.length := by simp [intsN]
theorem intsN_snoc (L : List Nat) (x : Nat) : intsN (L ++ [x]) = intsN L ++ [.int .i64 (x : Int)] := by simp [intsN]
theorem intsN_at {L : List Nat} {i : Nat} (h : i < L.length) : (intsN L)[i]? = some (.int .i64 ((L.getD i 0 : Nat) : Int)) := by
  unfold intsN
  rw [List.getElem?_map, List.getElem?_eq_getElem h, List.getD_eq_getElem?_getD, List.getElem?_eq_getElem h]; rfl

/-- what lies in memory while rooms are reached -/
structure StSt (w : World) (n O oc : Nat) (s : Bf) (qo : Option Addr) (qc : Nat) (wr : World) : Prop where
  out : wr.ownsRow w.heap.size 3 1 (.slice (some ⟨O, 0, none⟩) n oc) n ((outB s.D n).map (Value.int .i64))
  q : wr.ownsRow w.heap.size 3 1 (.slice qo s.q.length qc) s.q.length (intsN s.q)
  ne : ∀ a, qo = some a → a.block ≠ O
  below : Below w.heap.size w wr
theorem StSt.step {w wr w' : World} {n O oc : Nat} {s : Bf} {qo : Option Addr} {qc : Nat} (h : StSt w n O oc s qo qc wr) (hb : Below wr.heap.size wr w') : StSt w n O oc s qo qc w' :=
  ⟨ownsRow_below h.out hb, ownsRow_below h.q hb, h.ne, below_step h.below h.below.size hb⟩
theorem StSt.outCell {w wr : World} {n O oc : Nat} {s : Bf} {qo : Option Addr} {qc : Nat} (h : StSt w n O oc s qo qc wr) {x : Nat} (hx : x < n) : wr.cell? ⟨O, x, none⟩ = some (.int .i64 (((s.D x : Nat) : Int) - 1)) := by
  rw [h.out.cellAt x (by omega), outB_at hx]

theorem owns_kept' {w : World} {base : Nat} {e : TypeId} {size : Nat} {ao : Option Addr} {m cap n : Nat} {xs : List Value} {O x : Nat} {v : Value} (h : w.ownsRow base e size (.slice ao m cap) n xs) (hne : ∀ a, ao = some a → a.block ≠ O) : (w.setCell ⟨O, x, none⟩ v).ownsRow base e size (.slice ao m cap) n xs := by
  refine h.kept (row := some O) ⟨by simp [World.setCell], by simp [World.setCell], by simp [World.setCell], by simp [World.setCell], fun k hk hn => ?_⟩ ?_
  · have hne' : O ≠ k := fun he => hn (by rw [he])
    simp [World.setCell, Array.getElem?_modify, hne']
  · cases ao with
    | none => exact .inl rfl
    | some a => exact .inr (by simp only [Value.ownBlock, ne_eq, Option.some.injEq]; exact hne a rfl)

set_option maxRecDepth 100000 in
set_option maxHeartbeats 8000000 in
theorem l4Steps_any (ao : Option Addr) (cap : Nat) (p : List ByteArray) (a : Nat) (w : World) (hp : planB p = true) (ha : a < gridR p) (hl : p.length ≤ 1048576) (hs : ∀ s ∈ p, s.size ≤ 1048576) (hc : CellsAt w ao (p.map Value.string)) :
    Calls Try.prog 23 #[.slice ao p.length cap, .int .i64 a] w
      fun e w' => ∃ ro rc, e = .returned (.slice ro (gridR p) rc) ∧ w'.ownsRow w.heap.size 3 1 (.slice ro (gridR p) rc) (gridR p) ((outB (bfsB (adjF (bsF p) (gridR p)) a (gridR p)).D (gridR p)).map (Value.int .i64)) ∧ Below w.heap.size w w' := by
  obtain ⟨it, hti0, htz, ht1, ht2⟩ := info_parts Try.infoNum
  have hti := hti0
  have hb0 := below_alloc w (.cells #[] 3)
  have hr0 : (w.alloc (.cells #[] 3)).ownsRow w.heap.size 3 1 (.slice (some ⟨w.heap.size, 0, none⟩) 0 0) 0 ((List.replicate 0 (-1 : Int)).map (Value.int .i64)) := World.ownsRow_made w #[] 0 (Nat.le_refl _) (Nat.zero_le _) rfl
  have hR9 := (planP_of hp).few
  have HR := Lib.hid (fun w c => l1Rooms_any ao cap p w hl hs c)
  rw [(planP_of hp).rooms] at HR
  have HO := Lib.hid (fun (y : Nat) w c => by have h := l4Of_any ao cap p (y : Int) w hp hl hs c; rw [ofL_adj, List.length_map, List.map_map] at h; exact (show Calls _ _ _ _ fun e w' => ∃ ro rc, e = .returned (.slice ro (adjF (bsF p) (gridR p) y).length rc) ∧ w'.ownsRow w.heap.size 3 1 (.slice ro (adjF (bsF p) (gridR p) y).length rc) (adjF (bsF p) (gridR p) y).length (intsN (adjF (bsF p) (gridR p) y)) ∧ Below w.heap.size w w' from h))
  have HI := Lib.hid (bfsB_inv (adj := adjF (bsF p) (gridR p)) ha (fun y => adjF_lt (bsF p) (gridR p) y))
  have HE := Lib.hid (fun i (hi : i ≤ gridR p) h => bfsB_end (adj := adjF (bsF p) (gridR p)) (a := a) hi h)
  have HS := Lib.hid (fun i (h : i < (bfsB (adjF (bsF p) (gridR p)) a i).q.length) => show bfsB (adjF (bsF p) (gridR p)) a (i + 1) = tchsB _ _ _ from if_pos h)
  have HAL := Lib.hid (fun y => adjF_lt (bsF p) (gridR p) y)
  have HAN := Lib.hid (fun y => adjF_len (bsF p) (gridR p) y)
  have H0 := Lib.hid (show bfsB (adjF (bsF p) (gridR p)) a 0 = ⟨fun y => if y = a then 1 else 0, [a]⟩ from rfl)
  have HC := Lib.hid hc
  generalize hadj : adjF (bsF p) (gridR p) = adj at *
  clear hadj
  generalize gridR p = n at *
  clear hp hl hs hc
  go_enter Try.func23, Try.ntmps23
  go_wp2
  go_loopw [5, 6] (fun vo vi wr => ∃ (i : Nat) (ro : Option Addr) (rc : Nat), i ≤ n ∧ vi = .int .i64 i ∧ vo = .slice ro i rc ∧ wr.ownsRow w.heap.size 3 1 (.slice ro i rc) i ((List.replicate i (-1 : Int)).map (Value.int .i64)) ∧ Below w.heap.size w wr) (fun _ vi _ => n - (intOf vi).toNat)
  case atStart => exact ⟨0, _, _, Nat.zero_le _, rfl, rfl, hr0, hb0⟩
  case round =>
    clear hr0 hb0
    obtain ⟨i, ro, rc, hi, rfl, rfl, hrow, hb⟩ := hrel
    have hcr := HC.out.below hb
    have hbs := hb.size
    go_wp2_with fail
    refine (HR.out _ hcr).mono ?_
    rintro e w2 ⟨rfl, rfl⟩
    by_cases hlt : i < n
    · have hlt' : decide ((i : Int) < (n : Int)) = true := by rw [decide_eq_true_eq]; omega
      have hb1' : i + 1 ≤ maxLen := by unfold maxLen; omega
      have hb2' : (i + 1) * 8 ≤ 140737488355328 := by omega
      go_wp2_with (at_builtin; refine wpList_push _ rfl (.tmp 18) (.tmp 19) 31 rfl w.heap.size 3 it (.int .i64 0) 8 Try.underlying31 hti htz ht1 ht2 rfl ro i rc _ rfl (hrow.alloc _) _ _ _ rfl (cell_new _ _ _) rfl hb1' hb2' (by simp; omega) ?_; intro ro2 rc2 w4 hrow2 hg2 hnew2)
      have hrow3 : w4.ownsRow w.heap.size 3 1 (.slice ro2 (i + 1) rc2) (i + 1) ((List.replicate (i + 1) (-1 : Int)).map (Value.int .i64)) := by
        rw [List.replicate_succ', List.map_append]; exact hrow2
      go_roundw
      case rel => exact ⟨i + 1, ro2, rc2, by omega, by go_num, by first | rfl | trivial, hrow3, below_push hb hbs hg2 (fun a ha => (owns_lt hrow a ha).1)⟩
      case measure => simp [intOf]; omega
    · obtain rfl : i = n := by omega
      have hlt' : decide ((i : Int) < (i : Int)) = false := by rw [decide_eq_false_iff_not]; omega
      clear hlt
      obtain ⟨O, rfl⟩ : ∃ O, ro = some ⟨O, 0, none⟩ := by
        rcases hrow.2 with ⟨h, h0⟩ | ⟨g, c, cur, h, _⟩
        · omega
        · simp only [Value.slice.injEq] at h; exact ⟨g, h.1⟩
      have hO := owns_lt hrow _ rfl
      have hst := (hrow.stored a (.int .i64 0)).1
      rw [← outB_start ha] at hst
      have hfz := hrow.frozenAt a
      have hca := hrow.cellAt a (by omega)
      have hz1 : ((List.replicate i (-1 : Int)).map (Value.int .i64))[a]? = some (.int .i64 (-1)) := by simp [ha]
      rw [hz1] at hca
      have hb3 := hb.setCell (p := ⟨O, a, none⟩) hO.1 (.int .i64 0)
      have hai : (a : Int) < (i : Int) := by omega
      have HX := Lib.hid (And.intro hst hb3)
      clear hst hb3 hrow hz1
      have hsz : (w2.setCell ⟨O, a, none⟩ (.int .i64 0)).heap.size = w2.heap.size := by simp [World.setCell]
      have HSZ := Lib.hid hsz
      clear hsz
      go_wp2
      have hq0 : ((w2.setCell ⟨O, a, none⟩ (.int .i64 0)).alloc (.cells #[.int .i64 a] 3)).ownsRow w.heap.size 3 1 (.slice (some ⟨w2.heap.size, 0, none⟩) 1 1) 1 (intsN [a]) := by
        have h := owns_lit (w2.setCell ⟨O, a, none⟩ (.int .i64 0)) w.heap.size 3 [.int .i64 a] (by rw [HSZ.out]; exact hbs) (by unfold maxLen; simp)
        rw [HSZ.out] at h
        exact h
      have hst0 : StSt w i O rc (bfsB adj a 0) (some ⟨w2.heap.size, 0, none⟩) 1 ((w2.setCell ⟨O, a, none⟩ (.int .i64 0)).alloc (.cells #[.int .i64 a] 3)) := by
        obtain ⟨x1, x2⟩ := HX.out
        rw [H0.out]
        exact ⟨x1.alloc _, hq0, fun b hb => by simp only [Option.some.injEq] at hb; subst hb; show w2.heap.size ≠ O; omega, x2.alloc x2.size _⟩
      have hOw := hO.1
      have HL1 := Lib.hid (show (bfsB adj a 0).q.length = 1 by rw [H0.out]; rfl)
      clear hq0 HX HSZ hfz hca hai hb hcr hbs hO H0 HR
      generalize (w2.setCell ⟨O, a, none⟩ (.int .i64 0)).alloc (.cells #[.int .i64 a] 3) = W0 at *
      generalize w2.heap.size = Qb at *
      obtain ⟨n, hn⟩ : ∃ n, n = i := ⟨_, rfl⟩
      subst hn
      go_loopw [7, 8] (fun vq vi wr => ∃ (i : Nat) (qo : Option Addr) (qc : Nat), i ≤ (bfsB adj a i).q.length ∧ i ≤ n ∧ vi = .int .i64 i ∧ vq = .slice qo (bfsB adj a i).q.length qc ∧ StSt w n O rc (bfsB adj a i) qo qc wr) (fun _ vi _ => n - (intOf vi).toNat)
      case atStart => exact ⟨0, _, _, Nat.zero_le _, Nat.zero_le _, rfl, by rw [HL1.out], hst0⟩
      case round =>
        clear hst0
        obtain ⟨i, qo, qc, hiq, hin, rfl, rfl, hst⟩ := hrel
        have hI := HI.out i
        have hqn := hI.few
        by_cases hlt : i < (bfsB adj a i).q.length
        · have hlt' : decide ((i : Int) < ((bfsB adj a i).q.length : Int)) = true := by rw [decide_eq_true_eq]; omega
          have HSS := Lib.hid (HS.out i hlt)
          have HLN := Lib.hid (show i + 1 ≤ (bfsB adj a (i + 1)).q.length from Nat.le_trans hlt (BfG.rnd adj (bfsB adj a i) i).len)
          have hyq : (bfsB adj a i).q.getD i 0 ∈ (bfsB adj a i).q := getD_mem 0 hlt
          have hyn := hI.lt _ hyq
          have HQC := Lib.hid (intsN_at hlt)
          generalize hs0 : bfsB adj a i = s at *
          have HAT := Lib.hid (fun t (h : BfG s t) => h.at hlt)
          generalize hy0 : s.q.getD i 0 = y at *
          obtain ⟨qb, qoff, rfl, hqc⟩ := (owns_cells hst.q) i _ HQC.out
          have hcw := HC.out.below hst.below
          have HBL := Lib.hid hst.below
          clear hs0 hy0
          generalize hsl : s.q.length = sl at *
          have HSL := Lib.hid hsl
          clear hsl
          have HST := Lib.hid hst
          clear hst
          go_wp2_with fail
          refine (HO.out y _ hcw).mono ?_
          rintro e w5 ⟨no, nc, rfl, hnr, hb5⟩
          have hnl := owns_lt hnr
          have hqs := hb5.size
          have hOl := owns_lt HST.out.out _ rfl
          have hOl2 : O < wr.heap.size := hOl.2
          have hqbl := (owns_lt HST.out.q _ rfl)
          have hqb2 : qb < wr.heap.size := hqbl.2
          have hst5 := HST.out.step hb5
          have hnc5 := owns_cells hnr
          have HNB := Lib.hid (show ∀ b, no = some b → b.block ≠ O ∧ b.block < w5.heap.size from fun b hb => ⟨by have := hnl b hb; omega, (hnl b hb).2⟩)
          have hnq5 : ∀ b c, no = some b → (some ⟨qb, qoff, none⟩ : Option Addr) = some c → b.block ≠ c.block := fun b c hb hc => by
            simp only [Option.some.injEq] at hc; subst hc; have := hnl b hb; show b.block ≠ qb; omega
          have hst5' : StSt w n O rc (tchsB y s ((adj y).take 0)) (some ⟨qb, qoff, none⟩) qc w5 := hst5
          have HW5 := Lib.hid (Nat.le_refl w5.heap.size)
          have HSL2 := Lib.hid (show (tchsB y s ((adj y).take 0)).q.length = sl from HSL.out)
          have HTK := Lib.hid (fun k (hk : k < (adj y).length) => show tchsB y s ((adj y).take (k + 1)) = tchB y (tchsB y s ((adj y).take k)) ((adj y).getD k 0) by rw [take_succ_getD (adj y) k 0 hk, tchsB_snoc])
          have HTI := Lib.hid (fun k => hI.tchs (y := y) ((adj y).take k) (fun x hx => HAL.out y x (List.mem_of_mem_take hx)))
          have HTG := Lib.hid (fun k => BfG.tchs y ((adj y).take k) s)
          have HTL := Lib.hid (show tchsB y s ((adj y).take (adj y).length) = tchsB y s (adj y) by rw [List.take_length])
          have HNC := Lib.hid (fun k (hk : k < (adj y).length) => intsN_at hk)
          have HXN := Lib.hid (fun k (hk : k < (adj y).length) => HAL.out y _ (getD_mem 0 hk))
          have hAn := HAN.out y
          have HYP := Lib.hid (hI.pos y hyq)
          obtain ⟨W5, hW5⟩ : ∃ W5, W5 = w5.heap.size := ⟨_, rfl⟩
          rw [← hW5] at HNB HW5
          have hW5' : W5 ≤ w5.heap.size := by omega
          clear hW5 hst5 hnr hnl hqs hOl hqbl HST hcw hqc HBL hb5 HQC
          generalize adj y = A at *
          go_wp2
          go_loopw [7, 10] (fun vq vk wm => ∃ (k : Nat) (qo : Option Addr) (qc : Nat), k ≤ A.length ∧ vk = .int .i64 k ∧ vq = .slice qo (tchsB y s (A.take k)).q.length qc ∧ StSt w n O rc (tchsB y s (A.take k)) qo qc wm ∧ CellsAt wm no (intsN A) ∧ (∀ b c, no = some b → qo = some c → b.block ≠ c.block) ∧ W5 ≤ wm.heap.size) (fun _ vk _ => A.length - (intOf vk).toNat)
          case atStart => exact ⟨0, _, _, Nat.zero_le _, rfl, by rw [HSL2.out], hst5', hnc5, hnq5, hW5'⟩
          case round =>
            clear hst5' hnc5 hnq5 hW5'
            obtain ⟨k, qo, qc, hk, rfl, rfl, hst, hnc, hnq, hws⟩ := hrel
            by_cases hkl : k < A.length
            · have hkl' : decide ((k : Int) < (A.length : Int)) = true := by rw [decide_eq_true_eq]; omega
              have hJ := HTI.out k
              have hG := HTG.out k
              have HTS := Lib.hid (HTK.out k hkl)
              have HTN := Lib.hid (HTI.out (k + 1)).few
              have hxn := HXN.out k hkl
              obtain ⟨nb, noff, rfl, hcx⟩ := hnc k _ (HNC.out k hkl)
              rw [HTS.out] at HTN
              have HKX := Lib.hid (HNC.out k hkl)
              generalize A.getD k 0 = x at *
              generalize tchsB y s (A.take k) = t at *
              have htiq : i < t.q.length := by have := hG.len; have := HSL.out; omega
              have HTQ := Lib.hid (by have := intsN_at htiq; rw [HAT.out t hG] at this; exact this)
              have hcO := hst.outCell hxn
              have hle := hJ.le x
              have hfew := hJ.few
              by_cases hD : t.D x = 0
              · rw [tchB_new hD] at HTS HTN
                rw [hD] at hcO
                have hcx0 : wr.cell? ⟨O, x, none⟩ = some (.int .i64 (-1)) := by simpa using hcO
                have hpy : 0 < t.D y := by rw [hG.D y HYP.out]; exact HYP.out
                have hcy := hst.outCell hyn
                have hly := hJ.le y
                obtain ⟨v, hv⟩ : ∃ v, t.D y = v + 1 := ⟨t.D y - 1, by omega⟩
                rw [hv] at hcy hly HTS
                have hcy0 : wr.cell? ⟨O, y, none⟩ = some (.int .i64 (v : Int)) := by rw [hcy]; congr 2; omega
                have hfz := hst.out.frozenAt x
                have hO2 := (owns_lt hst.out _ rfl).2
                have hO3 : O < wr.heap.size := hO2
                have HWX := Lib.hid (fun m => show StSt w n O rc ⟨updD t.D x (v + 1 + 1), t.q⟩ qo qc ((wr.drewN m).setCell ⟨O, x, none⟩ (.int .i64 ((v : Int) + 1))) from
                  have h1 := (hst.step (below_drewN _ _ m))
                  ⟨by
                    have h2 := (h1.out.stored x (.int .i64 ((v : Int) + 1))).1
                    rw [show ((v : Int) + 1) = (((v + 1 + 1 : Nat) : Int) - 1) by omega] at h2 ⊢
                    rw [← outB_upd _ hxn] at h2
                    exact h2, owns_kept' h1.q h1.ne, h1.ne, h1.below.setCell (p := ⟨O, x, none⟩) hOw _⟩)
                have HNX := Lib.hid (fun m => show CellsAt ((wr.drewN m).setCell ⟨O, x, none⟩ (.int .i64 ((v : Int) + 1))) (some ⟨nb, noff, none⟩) (intsN A) from (hnc.drewN m).setOther (p := ⟨O, x, none⟩) (fun b hb => (HNB.out b hb).1) _)
                obtain ⟨qb', qoff', rfl, hqi⟩ := (owns_cells hst.q) i _ HTQ.out
                have hlv : v ≤ 9 := by omega
                have HLT := Lib.hid hlt
                have hx6 : (x : Int) < (n : Int) := by omega
                have hy6 : (y : Int) < (n : Int) := by omega
                have hii : (i : Int) < (t.q.length : Int) := by omega
                clear hcO hcy hv hD hle hfew hly hpy
                go_wp2
                go_region
                have s1 := HWX.out 1
                have n1 := HNX.out 1
                change StSt w n O rc ⟨updD t.D x (v + 1 + 1), t.q⟩ _ qc (wr.setCell ⟨O, x, none⟩ (.int .i64 ((v : Int) + 1))).drew at s1
                change CellsAt (wr.setCell ⟨O, x, none⟩ (.int .i64 ((v : Int) + 1))).drew _ _ at n1
                have hws1 : W5 ≤ (wr.setCell ⟨O, x, none⟩ (.int .i64 ((v : Int) + 1))).drew.heap.size := by simp [World.setCell]; exact hws
                clear hst hnc hcx hqi hcx0 hcy0 hfz hws HWX HNX hO2 hO3
                generalize (wr.setCell ⟨O, x, none⟩ (.int .i64 ((v : Int) + 1))).drew = W7 at *
                have hcx : W7.cell? ⟨nb, noff + k, none⟩ = some (.int .i64 (x : Int)) := by
                  obtain ⟨b', o', he, hc⟩ := n1 k _ (by have := HNC.out k hkl; exact HKX.out)
                  simp only [Option.some.injEq, Addr.mk.injEq, and_true] at he
                  obtain ⟨rfl, rfl⟩ := he
                  exact hc
                have hrow := s1.q
                have hq9 : t.q.length ≤ 9 := by have := HTN.out; rw [List.length_append] at this; simp at this; omega
                have hb1' : t.q.length + 1 ≤ maxLen := by unfold maxLen; omega
                have hb2' : (t.q.length + 1) * 8 ≤ 140737488355328 := by omega
                have hbw := s1.below.size
                have HS1 := Lib.hid s1
                have hne := s1.ne
                have hNB := HNB.out _ rfl
                have hnb5 : nb < W5 := hNB.2
                clear s1 hx6 hy6 hii
                go_wp2_with (at_builtin; refine wpList_push _ rfl (.tmp 66) (.tmp 71) 31 rfl w.heap.size 3 it (.int .i64 0) 8 Try.underlying31 hti0 htz ht1 ht2 rfl _ t.q.length qc _ rfl (hrow.alloc _) _ _ _ rfl (cell_new _ _ _) rfl hb1' hb2' (by simp; omega) ?_; intro ro2 rc2 w4 hrow2 hg2 hnew2)
                have hO7 := (owns_lt HS1.out.out _ rfl).2
                have hO8 : O < W7.heap.size := hO7
                have hs4 := hg2.size
                rw [World.size_alloc] at hs4
                have f1 := owns_push_other HS1.out.out hg2 (fun b c hb hc => by simp only [Option.some.injEq] at hb; subst hb; exact fun he => hne c hc he.symm)
                have f2 := below_push HS1.out.below hbw hg2 (fun b hb => (owns_lt hrow b hb).1)
                have f3 := grown_lt hnew2 hne (by rw [World.size_alloc]; omega)
                have f4 := (n1.below (below_alloc W7 _)).grown hg2 (fun b hb => by
                  simp only [Value.ownBlock, ne_eq, Option.some.injEq]
                  exact hnq b _ hb rfl)
                have f5 : ∀ b c, (some ⟨nb, noff, none⟩ : Option Addr) = some b → ro2 = some c → b.block ≠ c.block := fun b c hb hc => by
                  rcases hnew2 c hc with h' | h'
                  · exact hnq b c hb h'
                  · rw [World.size_alloc] at h'
                    simp only [Option.some.injEq] at hb; subst hb
                    show nb ≠ c.block; omega
                rw [← intsN_snoc] at hrow2
                have f6 : StSt w n O rc (tchsB y s (A.take (k + 1))) ro2 rc2 w4 := by
                  rw [HTS.out]
                  exact ⟨f1, by rw [List.length_append]; exact hrow2, f3, f2⟩
                have HLL := Lib.hid (show (tchsB y s (A.take (k + 1))).q.length = t.q.length + 1 by rw [HTS.out]; simp)
                clear hrow2 f1 f2 f3 n1 hrow hg2 hnew2 HS1
                go_roundw
                case rel => exact ⟨k + 1, ro2, rc2, by omega, by go_num, by rw [HLL.out], f6, f4, f5, by omega⟩
                case measure => simp [intOf]; omega
              · rw [tchB_old hD] at HTS HTN
                have hVd : decide ((((t.D x : Nat) : Int) - 1) < 0) = false := by rw [decide_eq_false_iff_not]; omega
                generalize ((t.D x : Nat) : Int) - 1 = V at *
                go_wp2
                go_roundw
                case rel => exact ⟨k + 1, qo, qc, by omega, by go_num, by rw [HTS.out], by rw [HTS.out]; exact hst, hnc, hnq, hws⟩
                case measure => simp [intOf]; omega
            · have hkl' : decide ((A.length : Int) < (A.length : Int)) = false := by rw [decide_eq_false_iff_not]; omega
              obtain rfl : k = A.length := by omega
              rw [HTL.out, ← HSS.out] at hst
              have hE := HSS.out
              go_wp2
              go_roundw
              case rel => exact ⟨i + 1, qo, qc, HLN.out, by omega, by go_num, by rw [HSS.out, HTL.out], hst⟩
              case measure => simp [intOf]; omega
        · have hlt' : decide ((i : Int) < ((bfsB adj a i).q.length : Int)) = false := by rw [decide_eq_false_iff_not]; omega
          have hst' := hst.out
          rw [← HE.out i hin (by omega)] at hst'
          have hbl := hst.below
          clear hst
          generalize (bfsB adj a i).q.length = sl at *
          go_wp2
          go_ret
          exact ⟨_, _, rfl, hst', hbl⟩
end Go.Proofs.Ytgiikdcjigcnlaa
