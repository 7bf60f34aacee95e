
/-
  Merged texts: LawN ListA.
-/
import Derived.Test.YtiaimcedcjapdaaLaws
import Derived.Test.YtiaimcedcjapdaaNests
import Derived.Test.YtiaimcedcjapdaaSpecWX

/-
  The laws' helpers over lists of lists of numbers: compared, marked, held. (Walks.)
-/
namespace Go.Proofs.Ytiaimcedcjapdaa
open Go.RowKit

theorem RowsAt.cellRow {w : World} {base : Nat} {ao : Option Addr} {cap : Nat} {L : List (List Int)} {us : List Value} (h : RowsAt w base ao cap L us) {i : Nat} (hi : i < L.length) :
    ∃ bb off bo c, ao = some ⟨bb, off, none⟩ ∧ w.cell? ⟨bb, off + i, none⟩ = some (.slice bo (L.getD i []).length c) ∧ w.ownsRow base 3 1 (.slice bo (L.getD i []).length c) (L.getD i []).length ((L.getD i []).map (Value.int .i64)) ∧ us[i]? = some (.slice bo (L.getD i []).length c) := by
  have he : L[i]? = some (L.getD i []) := by simp [hi]
  obtain ⟨bo, c, h1, h2, _⟩ := h.2.1 i _ he
  obtain ⟨bb, off, hb, hc⟩ := owns_cells h.1 i _ h1
  exact ⟨bb, off, bo, c, hb, hc, h2, h1⟩

/-- marks from number k on, in the place of each number -/
def marksR (k : Nat) : List (List Int) → List (List Int)
  | [] => []
  | l :: L => marksI k l.length :: marksR (k + l.length) L
def totR : List (List Int) → Nat
  | [] => 0
  | l :: L => l.length + totR L
theorem marksR_len : ∀ (k : Nat) (L : List (List Int)), (marksR k L).length = L.length
  | _, [] => rfl
  | k, l :: L => by unfold marksR; rw [List.length_cons, marksR_len, List.length_cons]
theorem totR_take : ∀ (L : List (List Int)) (j : Nat), j < L.length → totR (L.take (j + 1)) = totR (L.take j) + (L.getD j []).length
  | [], j, h => by simp at h
  | l :: L, 0, _ => by simp [totR]
  | l :: L, j + 1, h => by
    have := totR_take L j (by simpa using h)
    simp only [List.take_succ_cons, totR, this, List.getD_cons_succ]
    omega
theorem totR_le : ∀ (L : List (List Int)) (j : Nat), totR (L.take j) ≤ totR L
  | [], j => by simp [totR]
  | l :: L, 0 => Nat.zero_le _
  | l :: L, j + 1 => by have := totR_le L j; simp only [List.take_succ_cons, totR]; omega
theorem marksR_getD : ∀ (k : Nat) (L : List (List Int)) (j : Nat), j < L.length → (marksR k L).getD j [] = marksI (k + totR (L.take j)) (L.getD j []).length
  | k, [], j, h => by simp at h
  | k, l :: L, 0, _ => by simp [marksR, totR]
  | k, l :: L, j + 1, h => by
    have := marksR_getD (k + l.length) L j (by simpa using h)
    simp only [marksR, List.getD_cons_succ, this, List.take_succ_cons, totR]
    rw [Nat.add_assoc]
theorem marksR_step (k : Nat) (L : List (List Int)) (j : Nat) (h : j < L.length) : marksR k (L.take (j + 1)) ++ L.drop (j + 1) = marksR k (L.take j) ++ marksI (k + totR (L.take j)) (L.getD j []).length :: L.drop (j + 1) := by
  induction L generalizing k j with
  | nil => simp at h
  | cons l L ih =>
    cases j with
    | zero => simp [marksR, totR]
    | succ j =>
      have := ih (k + l.length) j (by simpa using h)
      simp only [List.take_succ_cons, marksR, List.drop_succ_cons, List.cons_append, this, totR, List.getD_cons_succ, Nat.add_assoc]
theorem rows_len_mem {L : List (List Int)} {n : Nat} (h : totR L ≤ n) : ∀ l ∈ L, l.length ≤ n := by
  induction L with
  | nil => intro l hl; simp at hl
  | cons x L ih =>
    intro l hl
    unfold totR at h
    rcases List.mem_cons.1 hl with rfl | hl
    · omega
    · exact ih (by omega) l hl

/-- one row is written anew -/
theorem RowsAt.put {w w' : World} {base : Nat} {ao : Option Addr} {cap : Nat} {A B : List (List Int)} {l l' : List Int} {us : List Value} {bo : Option Addr} {c : Nat} (h : RowsAt w base ao cap (A ++ l :: B) us)
    (hu : us[A.length]? = some (.slice bo l.length c)) (hg : w.grownBy w' (Value.ownBlock (.slice bo l.length c))) (hl : l'.length = l.length) (hown : w'.ownsRow base 3 1 (.slice bo l.length c) l.length (l'.map (Value.int .i64))) :
    RowsAt w' base ao cap (A ++ l' :: B) us := by
  have hlen : (A ++ l' :: B).length = (A ++ l :: B).length := by simp
  have hin := h.2.1 A.length l (by simp)
  obtain ⟨bo', c', e1, e2, e3⟩ := hin
  rw [hu] at e1
  simp only [Option.some.injEq, Value.slice.injEq, true_and] at e1
  obtain ⟨rfl, rfl⟩ := e1
  refine ⟨by rw [hlen]; exact owns_kept h.1 hg e3, fun i x hx => ?_, h.2.2⟩
  by_cases hi : i = A.length
  · subst hi
    rw [List.getElem?_append_right (Nat.le_refl _), Nat.sub_self, List.getElem?_cons_zero, Option.some.injEq] at hx
    subst hx
    exact ⟨bo, c, by rw [hl]; exact hu, by rw [hl]; exact hown, e3⟩
  · have hx' : (A ++ l :: B)[i]? = some x := by
      rcases Nat.lt_or_ge i A.length with h' | h'
      · rw [List.getElem?_append_left h'] at hx ⊢; exact hx
      · obtain ⟨m, hm⟩ : ∃ m, i - A.length = m + 1 := ⟨i - A.length - 1, by omega⟩
        rw [List.getElem?_append_right h', hm, List.getElem?_cons_succ] at hx ⊢; exact hx
    obtain ⟨b2, c2, f1, f2, f3⟩ := h.2.1 i x hx'
    exact ⟨b2, c2, f1, owns_kept f2 hg (h.2.2 i A.length _ _ _ _ _ _ hi f1 hu), f3⟩

end Go.Proofs.Ytiaimcedcjapdaa

/-
  All walls told: the model's answer and the program's. (Walks.)
-/
namespace Go.Proofs.Ytiaimcedcjapdaa
open Go.RowKit

/-- a slice of slices and a word, handed back -/
def RowsRet (base : Nat) (T : List (List Int)) (b : Bool) (e : Ending) (w' : World) : Prop :=
  ∃ ro rc, e = .returned (.tuple #[.slice ro T.length rc, .bool b]) ∧ RowsOwn w' base ro rc T

def listOr (p : List ByteArray) : List (List Int) := (wallsP p).map wlN
theorem listOr_len (p : List ByteArray) : (listOr p).length ≤ 72 := by unfold listOr; rw [List.length_map]; exact wallsP_len p
theorem listOr_tot (p : List ByteArray) : totR (listOr p) ≤ 288 := by
  have key : ∀ L : List Wl, totR (L.map wlN) = L.length * 4 := fun L => by
    induction L with
    | nil => rfl
    | cons x L ih => simp only [List.map_cons, totR, ih, List.length_cons, Nat.succ_mul]; simp [wlN]; omega
  unfold listOr
  rw [key]
  have := wallsP_len p
  omega

set_option maxRecDepth 100000 in
set_option maxHeartbeats 2000000 in
theorem implWallList_any (ao : Option Addr) (cap : Nat) (p : List ByteArray) (w : World) (hl : p.length ≤ 1048576) (hs : ∀ s ∈ p, s.size ≤ 1048576) (hc : CellsAt w ao (p.map Value.string)) :
    Calls Try.prog 20 #[.slice ao p.length cap] w fun e w' => RowsRet w.heap.size (listOr p) (planB p) e w' ∧ Below w.heap.size w w' := by
  obtain ⟨ir, hri, hrz, hr1, hr2⟩ := info_parts Try.infoRow
  have HLE := Lib.hid (wallsP_len p)
  have HRP := Lib.hid (fun w hc => by have := readPlan_any ao cap p w hl hs hc; rw [readC_plan, readOk_eq] at this; exact this)
  have HWA := Lib.hid (fun w => walls_any (planH p) (planW p) (planR p) (planG p) w (planH_le p) (planW_le p))
  have HPS := Lib.hid (plan_size (planH p) (planW p) (planR p) (planG p))
  have HP1 := Lib.hid (planC_one (planH p) (planW p) (planR p) (planG p))
  have HCS := Lib.hid (planC_size (planH p) (planW p) (planR p) (planG p))
  change Hid (∀ w, Calls _ _ _ w fun e w' => ∃ ro rc, e = .returned (.slice ro (wallsP p).length rc) ∧ w'.ownsRow w.heap.size 70 4 (.slice ro (wallsP p).length rc) (wallsP p).length (wlsC (wallsP p)) ∧ Below w.heap.size w w') at HWA
  unfold listOr
  generalize wallsP p = L at *
  generalize planC (planH p) (planW p) (planR p) (planG p) = C at *
  generalize planB p = pb at *
  go_enter Try.func20, Try.ntmps20
  go_wp2_with (first
    | (refine wpList_alloc_zero rfl 44 rfl zeroC zero_plan ?_)
    | (refine wpList_store_new rfl 44 _ _ rfl _ zeroC C rfl rfl rfl HPS.out (by rw [HCS.out]; rfl) HP1.out ?_)
    | (refine wpList_load_row rfl 44 _ rfl w1.heap.size rfl 44 C (0, 0) _ (HeldB.new w1 _ _) Try.underlying44 rfl HPS.out ?_)
    | (go_at_call 37; refine (HRP.out _ hc).mono ?_; rintro e w1 ⟨rfl, hb1⟩)
    | (go_at_call 38; refine (HWA.out _).mono ?_; rintro e w2 ⟨ro, rc, rfl, hown, hb2⟩))
  have hB2 : Below w.heap.size w w2 := below_step hb1 hb1.size ((below_alloc w1 (.cells C 44)).trans (hb2.mono (by simp)))
  have HCE := Lib.hid (ownsK_cells hown)
  have hls := fun a ha => (owns_lt hown a ha).2
  clear hown hb1 hb2
  obtain ⟨W2, hW2⟩ : ∃ W2, w2 = W2 := ⟨_, rfl⟩
  rw [hW2] at hB2 HCE hls ⊢
  have hR0 := rowsOwn_none W2 W2.heap.size
  have hs2 := hB2.size
  clear hW2
  go_loopw [6, 17] (fun vo vi wr => ∃ (i : Nat) (oo : Option Addr) (oc : Nat), i ≤ L.length ∧ vi = .int .i64 i ∧ vo = .slice oo ((L.take i).map wlN).length oc ∧ RowsOwn wr W2.heap.size oo oc ((L.take i).map wlN) ∧ Below W2.heap.size W2 wr) (fun _ vi _ => L.length - (intOf vi).toNat)
  case atStart => exact ⟨0, none, 0, Nat.zero_le _, rfl, rfl, hR0, Below.refl _ _⟩
  case round =>
    clear hR0
    obtain ⟨i, oo, oc, hi, rfl, rfl, hrow, hB⟩ := hrel
    by_cases hlt : i < L.length
    · have hlt' : decide ((i : Int) < (L.length : Int)) = true := by rw [decide_eq_true_eq]; omega
      obtain ⟨b, off, rfl, hrg⟩ := wls_range (HCE.out.below hB) hlt
      have HTM := Lib.hid (show (L.take (i + 1)).map wlN = (L.take i).map wlN ++ [wlN (L.getD i zeroWl)] by rw [take_succ_getD L i zeroWl hlt, List.map_append]; rfl)
      obtain ⟨us, hus⟩ := hrow
      have hle := HLE.out
      have hBl : ((L.take i).map wlN).length ≤ 72 := by rw [List.length_map, List.length_take]; omega
      generalize L.getD i zeroWl = X at *
      generalize (L.take i).map wlN = BQ at *
      have h63 : BQ.length + 1 ≤ maxLen := by unfold maxLen; omega
      have h64 : (BQ.length + 1) * 24 ≤ 140737488355328 := by omega
      have hbX := HeldB.new wr 70 (wlC X)
      have x0 := hbX.cell 0; have x1 := hbX.cell 1; have x2 := hbX.cell 2; have x3 := hbX.cell 3
      have y0 : (wlC X)[0]? = some (.int .i64 (X.way : Nat)) := rfl
      have y1 : (wlC X)[1]? = some (.int .i64 (X.line : Nat)) := rfl
      have y2 : (wlC X)[2]? = some (.int .i64 (X.first : Nat)) := rfl
      have y3 : (wlC X)[3]? = some (.int .i64 (X.long : Nat)) := rfl
      rw [y0] at x0; rw [y1] at x1; rw [y2] at x2; rw [y3] at x3
      have hbA := below_alloc wr (.cells (wlC X) 70)
      have hus1 := hus.below hbA
      have hBs := hB.size
      clear hbX
      have HSZ : Hid ((wr.alloc (.cells (wlC X) 70)).heap.size = wr.heap.size + 1) := Lib.hid (by simp)
      go_wp2_with (first
        | (refine wpList_load_wl rfl 70 _ rfl b (off + i * 4) rfl X _ hrg Try.underlying70 rfl Try.sizeWl ?_)
        | (refine wpList_store_new rfl 70 _ _ rfl _ (wlC zeroWl) (wlC X) rfl rfl rfl (wl_size _) rfl (wlC_one _) ?_)
        | (at_builtin; refine wpList_push _ rfl _ _ 38 rfl W2.heap.size 25 ir (.slice none 0 0) 24 Try.underlying38 hri hrz hr1 hr2 rfl oo BQ.length oc us rfl (ownsRow_below (ownsRow_below hus1.1 (below_alloc _ _)) (below_alloc _ _)) (.slice (some ⟨wr.heap.size + 1, 0, none⟩) 4 4) _ _ rfl (by have := cell_new2 (wr.alloc (.cells (wlC X) 70)) (.cells #[.int .i64 (X.way : Nat), .int .i64 (X.line : Nat), .int .i64 (X.first : Nat), .int .i64 (X.long : Nat)] 3) (.slice (some ⟨wr.heap.size + 1, 0, none⟩) 4 4) 25; rwa [HSZ.out] at this) rfl h63 h64 (by simp; omega) ?_; intro ro2 rc2 w8 hown8 hg8 hnew8))
      have hlt2 := owns_lt hus.1
      have hown9 : ((wr.alloc (.cells (wlC X) 70)).alloc (.cells #[.int .i64 (X.way : Nat), .int .i64 (X.line : Nat), .int .i64 (X.first : Nat), .int .i64 (X.long : Nat)] 3)).ownsRow W2.heap.size 3 1 (.slice (some ⟨wr.heap.size + 1, 0, none⟩) 4 4) 4 ((wlN X).map (Value.int .i64)) := by
        have := owns_lit (wr.alloc (.cells (wlC X) 70)) W2.heap.size 3 [.int .i64 (X.way : Nat), .int .i64 (X.line : Nat), .int .i64 (X.first : Nat), .int .i64 (X.long : Nat)] (Nat.le_trans hBs hbA.size) (by simp [maxLen])
        rwa [HSZ.out] at this
      have hbC := (below_alloc (wr.alloc (.cells (wlC X) 70)) (.cells #[.int .i64 (X.way : Nat), .int .i64 (X.line : Nat), .int .i64 (X.first : Nat), .int .i64 (X.long : Nat)] 3)).trans ((below_alloc _ (.cells #[.slice (some ⟨wr.heap.size + 1, 0, none⟩) 4 4] 25)).mono (by simp))
      have hus2 := hus1.push (l := wlN X) (c := 4) hbC (ownsRow_below hown9 (below_alloc _ _)) (fun a ha => by cases ha; simp) hown8 hg8 hnew8
      have hb2 := below_of_grownBy' ((hB.trans (hbA.mono hBs)).trans (hbC.mono (Nat.le_trans hBs hbA.size))) hg8 (fun a ha => (hlt2 a ha).1)
      go_roundw
      case rel => exact ⟨i + 1, ro2, rc2, by omega, by go_num, by rw [HTM.out, List.length_append]; rfl, by rw [HTM.out]; exact ⟨_, hus2⟩, hb2⟩
      case measure => simp [intOf]; omega
    · obtain rfl : i = L.length := by omega
      have hlt' : decide ((L.length : Int) < (L.length : Int)) = false := by rw [decide_eq_false_iff_not]; omega
      rw [List.take_length] at hrow
      go_wp2
      go_ret2
      exact ⟨⟨oo, oc, by rw [List.take_length]; rfl, hrow.base hs2⟩, below_step hB2 hB2.size hB⟩

end Go.Proofs.Ytiaimcedcjapdaa
