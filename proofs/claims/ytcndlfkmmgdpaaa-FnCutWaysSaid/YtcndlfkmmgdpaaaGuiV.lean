
/-
  The model's list of cuts. (Walks.)
-/
import Derived.Test.YtcndlfkmmgdpaaaGui4
namespace Go.Proofs.Ytcndlfkmmgdpaaa
open Go.RowKit

/-- all walls of a text -/
def wallsQ (q : List ByteArray) : List Wl := linesW 0 (upB q) q.length (wideB q) ++ linesW 1 (upB (transB q)) (wideB q) q.length
theorem wallsL_q (q : List ByteArray) : wallsL q = (wallsQ q).map wlN := by
  unfold wallsL wallsQ upL
  rw [List.map_append, linesW_wl 0 1 (upB (transB q)), trans_len, List.map_map, List.map_map]
  congr 1
  · refine List.map_congr_left fun x hx => ?_
    simp [wlN, wlL, (linesW_mem hx).1]
  · refine List.map_congr_left fun x hx => ?_
    simp [wlN, wlL, (linesW_mem hx).1]
theorem wallsQ_way {q : List ByteArray} {x : Wl} (hx : x ∈ wallsQ q) : x.way < 2 := by
  unfold wallsQ at hx
  rw [List.mem_append] at hx
  rcases hx with h | h <;> (rw [(linesW_mem h).1]; decide)
theorem wallsQ_len {q : List ByteArray} (h6 : q.length ≤ 6) (w6 : wideB q ≤ 6) : (wallsQ q).length ≤ 72 := by
  unfold wallsQ
  rw [List.length_append]
  have h1 := linesW_len 0 (upB q) q.length (wideB q)
  have h2 := linesW_len 1 (upB (transB q)) (wideB q) q.length
  have h3 : wideB q * q.length ≤ 6 * 6 := Nat.mul_le_mul w6 h6
  have h4 : q.length * wideB q ≤ 6 * 6 := Nat.mul_le_mul h6 w6
  omega
def keyW (x : Wl) : Nat × Nat := (x.way, x.line)
theorem wallsQ_cuts {q : List ByteArray} (h1 : 1 ≤ q.length) (w1 : 1 ≤ wideB q) : ((wallsQ q).filter (wcutB q.length (wideB q))).map keyW = cutsQ q := by
  unfold wallsQ cutsQ
  rw [List.filter_append, List.map_append]
  have e1 : (linesW 0 (upB q) q.length (wideB q)).filter (wcutB q.length (wideB q)) = (linesU q).map fun l => (⟨0, l, 0, q.length⟩ : Wl) := by
    rw [← upL_full h1]
    refine List.filter_congr fun x hx => ?_
    unfold wcutB alongN; rw [(linesW_mem hx).1, if_pos rfl]
  have e2 : (linesW 1 (upB (transB q)) (wideB q) q.length).filter (wcutB q.length (wideB q)) = (linesU (transB q)).map fun l => (⟨1, l, 0, wideB q⟩ : Wl) := by
    have := linesW_full (way := 1) (F := upB (transB q)) w1 q.length
    unfold linesU
    rw [trans_wide w1, trans_len, ← this]
    refine List.filter_congr fun x hx => ?_
    unfold wcutB alongN; rw [(linesW_mem hx).1, if_neg (by decide)]
  rw [e1, e2, List.map_map, List.map_map]
  rfl
theorem cutsQ_len {q : List ByteArray} (h1 : 1 ≤ q.length) (h6 : q.length ≤ 6) (w1 : 1 ≤ wideB q) (w6 : wideB q ≤ 6) : (cutsQ q).length ≤ 72 := by
  rw [← wallsQ_cuts h1 w1, List.length_map]
  exact Nat.le_trans (List.length_filter_le _ _) (wallsQ_len h6 w6)

/-- slices that tell cuts -/
def RowsIn (w : World) (B : Nat) (vs : List Value) (K : List (Nat × Nat)) : Prop :=
  vs.length = K.length ∧ ∀ i, i < K.length → ∃ g c, B ≤ g ∧ g < w.heap.size ∧ vs[i]? = some (.slice (some ⟨g, 0, none⟩) 4 c) ∧ w.cell? ⟨g, 0, none⟩ = some (.int .i64 (((K.getD i (0, 0)).1 : Nat) : Int)) ∧ w.cell? ⟨g, 1, none⟩ = some (.int .i64 (((K.getD i (0, 0)).2 : Nat) : Int))
theorem RowsIn.start (w : World) (B : Nat) : RowsIn w B [] [] := ⟨rfl, fun _ hi => absurd hi (Nat.not_lt_zero _)⟩
theorem RowsIn.below {w w' : World} {B : Nat} {vs : List Value} {K : List (Nat × Nat)} (h : RowsIn w B vs K) (hb : Below w.heap.size w w') : RowsIn w' B vs K :=
  ⟨h.1, fun i hi => by
    obtain ⟨g, c, h1, h2, h3, h4, h5⟩ := h.2 i hi
    exact ⟨g, c, h1, Nat.lt_of_lt_of_le h2 hb.size, h3, cell_below h4 hb, cell_below h5 hb⟩⟩
theorem RowsIn.grown {w w' : World} {B b : Nat} {vs : List Value} {K : List (Nat × Nat)} (h : RowsIn w B vs K) (hg : w.grownBy w' (some b)) (hb : b < B) : RowsIn w' B vs K :=
  ⟨h.1, fun i hi => by
    obtain ⟨g, c, h1, h2, h3, h4, h5⟩ := h.2 i hi
    exact ⟨g, c, h1, Nat.lt_of_lt_of_le h2 hg.size, h3, hg.cell h4 (by simp; omega), hg.cell h5 (by simp; omega)⟩⟩
theorem RowsIn.mono {w : World} {B : Nat} {vs : List Value} {K : List (Nat × Nat)} (h : RowsIn w B vs K) : RowsIn w 0 vs K :=
  ⟨h.1, fun i hi => by obtain ⟨g, c, a⟩ := h.2 i hi; exact ⟨g, c, Nat.zero_le _, a.2⟩⟩
theorem RowsIn.snoc {w : World} {B : Nat} {vs : List Value} {K : List (Nat × Nat)} (h : RowsIn w B vs K) {g c : Nat} {k : Nat × Nat} (h1 : B ≤ g) (h2 : g < w.heap.size) (h4 : w.cell? ⟨g, 0, none⟩ = some (.int .i64 ((k.1 : Nat) : Int))) (h5 : w.cell? ⟨g, 1, none⟩ = some (.int .i64 ((k.2 : Nat) : Int))) :
    RowsIn w B (vs ++ [.slice (some ⟨g, 0, none⟩) 4 c]) (K ++ [k]) := by
  refine ⟨by rw [List.length_append, List.length_append, h.1]; rfl, fun i hi => ?_⟩
  rw [List.length_append] at hi
  have hi' : i < K.length + 1 := hi
  by_cases he : i < K.length
  · obtain ⟨g', c', a1, a2, a3, a4, a5⟩ := h.2 i he
    have e : (K ++ [k]).getD i (0, 0) = K.getD i (0, 0) := by simp [List.getD_eq_getElem?_getD, List.getElem?_append_left he]
    rw [e]
    exact ⟨g', c', a1, a2, by rw [List.getElem?_append_left (by rw [h.1]; exact he)]; exact a3, a4, a5⟩
  · obtain rfl : i = K.length := by omega
    have e : (K ++ [k]).getD K.length (0, 0) = k := by simp
    rw [e]
    exact ⟨g, c, h1, h2, by rw [← h.1, List.getElem?_append_right (Nat.le_refl _), Nat.sub_self]; rfl, h4, h5⟩
theorem filterW_yes {f : Wl → Bool} {L : List Wl} {i : Nat} (hi : i < L.length) (h : f (L.getD i zeroWl) = true) : ((L.take (i + 1)).filter f).map keyW = ((L.take i).filter f).map keyW ++ [keyW (L.getD i zeroWl)] := by
  rw [take_snoc L i zeroWl hi, List.filter_append, List.map_append]
  rw [List.filter_cons, if_pos h]
  rfl
theorem filterW_no {f : Wl → Bool} {L : List Wl} {i : Nat} (hi : i < L.length) (h : f (L.getD i zeroWl) = false) : ((L.take (i + 1)).filter f).map keyW = ((L.take i).filter f).map keyW := by
  rw [take_snoc L i zeroWl hi, List.filter_append, List.map_append, List.filter_cons, if_neg (by rw [h]; decide)]
  exact List.append_nil _

set_option maxRecDepth 100000 in
set_option maxHeartbeats 4000000 in
theorem l3Cuts_any (ao : Option Addr) (cap : Nat) (q : List ByteArray) (w : World) (h1 : 1 ≤ q.length) (h6 : q.length ≤ 6) (w1' : 1 ≤ wideB q) (w6 : wideB q ≤ 6) (hev : Even q) (hc : CellsAt w ao (q.map Value.string)) :
    Calls Try.prog 84 #[.slice ao q.length cap] w
      fun e w' => ∃ ro rc vs, e = .returned (.slice ro (cutsQ q).length rc) ∧ CellsAt w' ro vs ∧ RowsIn w' 0 vs (cutsQ q) ∧ Below w.heap.size w w' := by
  obtain ⟨ir, hri, hrz, hr1, hr2⟩ := info_parts Try.infoRow
  have HW := Lib.hid (fun (w : World) (hc : CellsAt w ao (q.map Value.string)) => l2WallsE_any ao cap q w h1 h6 w1' w6 hev hc)
  have hWL := wallsL_q q
  rw [hWL] at HW
  have hle := wallsQ_len h6 w6
  have HWY := Lib.hid (fun x (hx : x ∈ wallsQ q) => wallsQ_way hx)
  have HLO := Lib.hid (fun (g c : Nat) (x : Wl) (w : World) (hx : x.way < 2) (hc : CellsAt w ao (q.map Value.string)) (hr : CellsAt w (some ⟨g, 0, none⟩) ((wlN x).map (Value.int .i64))) => l3Long_any ao cap q g c x w h1 hx hc hr)
  have hcu := wallsQ_cuts h1 w1'
  rw [← hcu]
  generalize wcutB q.length (wideB q) = f at *
  generalize wallsQ q = L at *
  have hLL : (L.map wlN).length = L.length := List.length_map _
  have HLL := Lib.hid hLL
  rw [hLL] at HW
  have HC := Lib.hid hc
  clear hLL hWL hcu h1 h6 w1' w6 hev hc
  go_enter Try.func84, Try.ntmps84
  go_wp2_with (go_at_call 100; refine (HW.out _ (HC.out.below (below_alloc _ _))).mono ?_; rintro e w2 ⟨uo, uc, rfl, hrow2, hb1⟩)
  obtain ⟨us, hus⟩ := hrow2
  have hR1 : w2.ownsRow w.heap.size 34 1 (.slice (some ⟨w.heap.size, 0, none⟩) 0 0) 0 [] := ownsRow_below (World.ownsRow_made w #[] 0 (Nat.le_refl _) (Nat.zero_le _) rfl) hb1
  have hB1 : Below w.heap.size w w2 := (below_alloc w (.cells #[] 34)).trans (hb1.mono (by simp))
  have hs1 : w.heap.size + 1 ≤ w2.heap.size := by have := hb1.size; simp at this; omega
  have hus := hus.base (base' := w.heap.size + 1) (by simp)
  clear hb1
  have HUS := Lib.hid hus
  clear hus
  go_loopw [3, 5] (fun vo vi wr => ∃ (i : Nat) (ro : Option Addr) (rc : Nat) (vs : List Value), i ≤ L.length ∧ vi = .int .i64 i ∧ vo = .slice ro (((L.take i).filter f).map keyW).length rc ∧ wr.ownsRow w.heap.size 34 1 (.slice ro (((L.take i).filter f).map keyW).length rc) (((L.take i).filter f).map keyW).length vs ∧
    RowsIn w2 (w.heap.size + 1) vs (((L.take i).filter f).map keyW) ∧ (((L.take i).filter f).map keyW).length ≤ i ∧
    w2.grownBy wr (some w.heap.size) ∧ (∀ a, ro = some a → a.block = w.heap.size ∨ w2.heap.size ≤ a.block) ∧ Below w.heap.size w wr) (fun _ vi _ => L.length - (intOf vi).toNat)
  case atStart => exact ⟨0, _, _, [], Nat.zero_le _, rfl, rfl, hR1, RowsIn.start _ _, Nat.le_refl _, ⟨rfl, rfl, rfl, Nat.le_refl _, fun _ _ _ => rfl⟩, fun a ha => by cases ha; exact .inl rfl, hB1⟩
  case round =>
    obtain ⟨i, ro, rc, vs, hi, rfl, rfl, hown, hin, hni, hgr, hro, hB⟩ := hrel
    have hcr := HC.out.below hB
    have hsz := hB.size
    by_cases hlt : i < L.length
    · have hlt' : decide ((i : Int) < (L.length : Int)) = true := by rw [decide_eq_true_eq]; omega
      have hl' : i < (L.map wlN).length := by rw [HLL.out]; exact hlt
      obtain ⟨bb, off, g, c, rfl, k0, hcl, hbb1, hg1, hbb2, hg2⟩ := HUS.out.row hl' (by rw [wlN_getD hlt]; exact Nat.succ_pos _)
      have k0' := hgr.cell k0 (by simp; omega)
      have hcl' := hcl.grown hgr (fun a ha => by cases ha; simp; omega)
      rw [wlN_getD hlt] at k0' hcl'
      have hwy := HWY.out _ (getD_mem zeroWl hlt)
      have k1 : wr.cell? ⟨bb, off + i, none⟩ = some (.slice (some ⟨g, 0, none⟩) 4 c) := k0'
      have HY := Lib.hid (@filterW_yes f L i hlt)
      have HN := Lib.hid (@filterW_no f L i hlt)
      rw [wlN_getD hlt] at hcl
      clear k0 k0'
      generalize L.getD i zeroWl = X at *
      generalize hcN : ((L.take i).filter f).map keyW = Q at *
      clear hcN
      cases hf : f X
      · have HE := Lib.hid (HN.out hf)
        go_wp2_with (go_at_call 101; refine (HLO.out _ _ X _ hwy hcr hcl').mono ?_; rw [hf]; rintro e w3 ⟨rfl, hb3⟩)
        have hgb := grownBy_of_below hb3 none
        go_roundw
        case rel => exact ⟨i + 1, ro, rc, vs, by omega, by go_num, by rw [HE.out], by rw [HE.out]; exact ownsRow_below hown hb3, by rw [HE.out]; exact hin, by rw [HE.out]; omega, grownBy_step hgr hgb (fun k hk => by cases hk), hro, below_step hB hsz hb3⟩
        case measure => simp [intOf]; omega
      · have HE := Lib.hid (HY.out hf)
        have h63 : Q.length + 1 ≤ maxLen := by unfold maxLen; omega
        have h64 : (Q.length + 1) * 24 ≤ 140737488355328 := by omega
        obtain ⟨b0, o0, e0, z0⟩ := hcl.int 0 (by simp [wlN])
        obtain ⟨b1, o1, e1, z1⟩ := hcl.int 1 (by simp [wlN])
        simp only [Option.some.injEq, Addr.mk.injEq, and_true] at e0 e1
        obtain ⟨rfl, rfl⟩ := e0
        obtain ⟨rfl, rfl⟩ := e1
        have hin2 := Lib.hid (hin.snoc (g := g) (c := c) (k := keyW X) hg1 hg2 z0 z1)
        clear z0 z1 hin
        go_wp2_with (first
          | (go_at_call 101; refine (HLO.out _ _ X _ hwy hcr hcl').mono ?_; rw [hf]; rintro e w3 ⟨rfl, hb3⟩; have k3 := cell_below k1 hb3)
          | (at_builtin; refine wpList_push _ rfl _ _ 93 rfl w.heap.size 34 ir (.slice none 0 0) 24 Try.underlying93 hri hrz hr1 hr2 rfl ro Q.length rc vs rfl (ownsRow_below (ownsRow_below hown hb3) (below_alloc _ _)) _ _ _ rfl (cell_new _ _ _) rfl h63 h64 (by simp; have := hb3.size; omega) ?_; intro ro2 rc2 w8 hown4 hg4 hnew4))
        have hlt2 := owns_lt hown
        have hx := hb3.trans ((below_alloc w3 (.cells #[.slice (some ⟨g, 0, none⟩) 4 c] 34)).mono hb3.size)
        have hg5 : w2.grownBy w8 (some w.heap.size) := grownBy_step hgr (grownBy_trans (grownBy_of_below hx _) hg4) (fun k hk => by
          obtain ⟨a, ha, rfl⟩ := ownBlock_is hk
          exact hro a ha)
        have hb5 := below_of_grownBy' (hB.trans (hx.mono hsz)) hg4 (fun a ha => (hlt2 a ha).1)
        have hq2 : (Q ++ [keyW X]).length = Q.length + 1 := by rw [List.length_append]; rfl
        go_roundw
        case rel => exact ⟨i + 1, ro2, rc2, vs ++ [.slice (some ⟨g, 0, none⟩) 4 c], by omega, by go_num, by rw [HE.out, hq2], by rw [HE.out, hq2]; exact hown4, by rw [HE.out]; exact hin2.out, by rw [HE.out, hq2]; omega, hg5, (fun a ha => by
          rcases hnew4 a ha with h' | h'
          · exact hro a h'
          · right; have := hgr.size; have := hb3.size; simp at h'; omega), hb5⟩
        case measure => simp [intOf]; omega
    · obtain rfl : i = L.length := by omega
      have hlt' : decide ((L.length : Int) < (L.length : Int)) = false := by rw [decide_eq_false_iff_not]; omega
      rw [List.take_length] at *
      go_wp2
      go_ret
      exact ⟨ro, rc, vs, rfl, owns_cells hown, (hin.grown hgr (Nat.lt_succ_self _)).mono, hB⟩

end Go.Proofs.Ytcndlfkmmgdpaaa
