/-
  The laws' helpers over lists of lists of numbers: compared, marked, held. (Walks.)
-/
import Derived.Test.YtdipcemiepmanaaLawI
import Derived.Test.YtdipcemiepmanaaNestB
namespace Go.Proofs.Ytdipcemiepmanaa
open Go.RowKit

theorem RowsAt.cellRow {w : World} {base : Nat} {ao : Option Addr} {cap : Nat} {L : List (List Int)} {us : List Value} (h : RowsAt w base ao cap L us) {i : Nat} (hi : i < L.length) :
    ∃ bb off bo c, ao = some ⟨bb, off, none⟩ ∧ w.cell? ⟨bb, off + i, none⟩ = some (.slice bo (L.getD i []).length c) ∧ w.ownsRow base 3 1 (.slice bo (L.getD i []).length c) (L.getD i []).length ((L.getD i []).map (Value.int .i64)) ∧ us[i]? = some (.slice bo (L.getD i []).length c) := by
  have he : L[i]? = some (L.getD i []) := by simp [hi]
  obtain ⟨bo, c, h1, h2, _⟩ := h.2.1 i _ he
  obtain ⟨bb, off, hb, hc⟩ := owns_cells h.1 i _ h1
  exact ⟨bb, off, bo, c, hb, hc, h2, h1⟩

theorem eqI_any_below (ao bo : Option Addr) (ca cb : Nat) (l : List Int) (w : World) (hl : l.length ≤ maxLen)
    (ha : CellsAt w ao (l.map (Value.int .i64))) (hb : CellsAt w bo (l.map (Value.int .i64))) :
    Calls Try.prog 32 #[.slice ao l.length ca, .slice bo l.length cb] w fun e w' => e = .returned (.bool true) ∧ Below w.heap.size w w' :=
  (eqIntS_any ao bo ca cb _ _ l l w rfl rfl hl ha hb).mono fun e w' h => by rw [eqI_self] at h; exact ⟨h.1, quiet_below h.2⟩

set_option maxRecDepth 100000 in
set_option maxHeartbeats 2000000 in
/-- a list of lists compared with itself -/
theorem eqIntSS_same (ao bo : Option Addr) (ca cb ba bb : Nat) (T : List (List Int)) (us vs : List Value) (w : World) (hT : T.length ≤ 1048576) (hTl : ∀ l ∈ T, l.length ≤ 1048576)
    (ha : RowsAt w ba ao ca T us) (hb : RowsAt w bb bo cb T vs) :
    Calls Try.prog 18 #[.slice ao T.length ca, .slice bo T.length cb] w fun e w' => e = .returned (.bool true) ∧ Below w.heap.size w w' := by
  have hne : ((T.length : Int) != (T.length : Int)) = false := by simp
  have HA := Lib.hid ha; have HB := Lib.hid hb
  have HTL := Lib.hid hTl
  clear ha hb hTl
  go_enter Try.func18, Try.ntmps18
  go_wp2
  go_loopw [5] (fun vi wr => ∃ i : Nat, i ≤ T.length ∧ vi = .int .i64 i ∧ Below w.heap.size w wr) (fun vi _ => T.length - (intOf vi).toNat)
  case atStart => exact ⟨0, Nat.zero_le _, rfl, Below.refl _ _⟩
  case round =>
    obtain ⟨i, hi, rfl, hB⟩ := hrel
    by_cases hlt : i < T.length
    · have hlt' : decide ((i : Int) < (T.length : Int)) = true := by rw [decide_eq_true_eq]; omega
      obtain ⟨b1, o1, g1, c1, rfl, k1, w1, _⟩ := (HA.out.below hB).cellRow hlt
      obtain ⟨b2, o2, g2, c2, rfl, k2, w2, _⟩ := (HB.out.below hB).cellRow hlt
      have hll := HTL.out _ (getD_mem [] hlt)
      generalize T.getD i [] = l at *
      have hm : l.length ≤ maxLen := by unfold maxLen; omega
      have HEQ := Lib.hid (fun (d : Nat) (os : Array Obj) => Calls.regrown_of (eqI_any_below g1 g2 c1 c2 l (Sort.grow (redrawn wr d) os) hm ((owns_cells w1).below (below_regrown wr d os)) ((owns_cells w2).below (below_regrown wr d os))))
      have q1 : ∀ r : Regrown, (Sort.grow (redrawn wr r.d) r.os).cell? ⟨b1, o1 + i, none⟩ = some (.slice g1 l.length c1) := fun r => cell_regrown k1 r.d r.os
      have q2 : ∀ r : Regrown, (Sort.grow (redrawn wr r.d) r.os).cell? ⟨b2, o2 + i, none⟩ = some (.slice g2 l.length c2) := fun r => cell_regrown k2 r.d r.os
      clear k1 k2 w1 w2
      go_wp2
      refine wp_region_quiet_below (by kernel_rfl) (by kernel_rfl) ?_
      repeat (first | go_big_quiet_step (with_reducible exact HEQ.out _ _) | quiet_step (with_reducible exact HEQ.out _ _))
      refine wpQuiet_nil ?_
      rintro _ ⟨r, rfl⟩
      have hb7 := below_regrown wr r.d r.os
      generalize Sort.grow (redrawn wr r.d) r.os = W7 at *
      go_wp2
      go_roundw
      case rel => exact ⟨i + 1, by omega, by go_num, below_step hB hB.size hb7⟩
      case measure => simp [intOf]; omega
    · obtain rfl : i = T.length := by omega
      have hlt' : decide ((T.length : Int) < (T.length : Int)) = false := by rw [decide_eq_false_iff_not]; omega
      go_wp2
      go_ret
      exact ⟨rfl, hB⟩

/-- marks from number k on, in the place of each number -/
def marksR (k : Nat) : List (List Int) → List (List Int)
  | [] => []
  | l :: L => marksI k l.length :: marksR (k + l.length) L
def totR : List (List Int) → Nat
  | [] => 0
  | l :: L => l.length + totR L
theorem marksR_len : ∀ (k : Nat) (L : List (List Int)), (marksR k L).length = L.length
  | _, [] => rfl
  | k, l :: L => by unfold marksR; rw [List.length_cons, marksR_len, List.length_cons]
theorem totR_take : ∀ (L : List (List Int)) (j : Nat), j < L.length → totR (L.take (j + 1)) = totR (L.take j) + (L.getD j []).length
  | [], j, h => by simp at h
  | l :: L, 0, _ => by simp [totR]
  | l :: L, j + 1, h => by
    have := totR_take L j (by simpa using h)
    simp only [List.take_succ_cons, totR, this, List.getD_cons_succ]
    omega
theorem totR_le : ∀ (L : List (List Int)) (j : Nat), totR (L.take j) ≤ totR L
  | [], j => by simp [totR]
  | l :: L, 0 => Nat.zero_le _
  | l :: L, j + 1 => by have := totR_le L j; simp only [List.take_succ_cons, totR]; omega
theorem marksR_getD : ∀ (k : Nat) (L : List (List Int)) (j : Nat), j < L.length → (marksR k L).getD j [] = marksI (k + totR (L.take j)) (L.getD j []).length
  | k, [], j, h => by simp at h
  | k, l :: L, 0, _ => by simp [marksR, totR]
  | k, l :: L, j + 1, h => by
    have := marksR_getD (k + l.length) L j (by simpa using h)
    simp only [marksR, List.getD_cons_succ, this, List.take_succ_cons, totR]
    rw [Nat.add_assoc]
theorem marksR_step (k : Nat) (L : List (List Int)) (j : Nat) (h : j < L.length) : marksR k (L.take (j + 1)) ++ L.drop (j + 1) = marksR k (L.take j) ++ marksI (k + totR (L.take j)) (L.getD j []).length :: L.drop (j + 1) := by
  induction L generalizing k j with
  | nil => simp at h
  | cons l L ih =>
    cases j with
    | zero => simp [marksR, totR]
    | succ j =>
      have := ih (k + l.length) j (by simpa using h)
      simp only [List.take_succ_cons, marksR, List.drop_succ_cons, List.cons_append, this, totR, List.getD_cons_succ, Nat.add_assoc]
theorem rows_len_mem {L : List (List Int)} {n : Nat} (h : totR L ≤ n) : ∀ l ∈ L, l.length ≤ n := by
  induction L with
  | nil => intro l hl; simp at hl
  | cons x L ih =>
    intro l hl
    unfold totR at h
    rcases List.mem_cons.1 hl with rfl | hl
    · omega
    · exact ih (by omega) l hl

/-- one row is written anew -/
theorem RowsAt.put {w w' : World} {base : Nat} {ao : Option Addr} {cap : Nat} {A B : List (List Int)} {l l' : List Int} {us : List Value} {bo : Option Addr} {c : Nat} (h : RowsAt w base ao cap (A ++ l :: B) us)
    (hu : us[A.length]? = some (.slice bo l.length c)) (hg : w.grownBy w' (Value.ownBlock (.slice bo l.length c))) (hl : l'.length = l.length) (hown : w'.ownsRow base 3 1 (.slice bo l.length c) l.length (l'.map (Value.int .i64))) :
    RowsAt w' base ao cap (A ++ l' :: B) us := by
  have hlen : (A ++ l' :: B).length = (A ++ l :: B).length := by simp
  have hin := h.2.1 A.length l (by simp)
  obtain ⟨bo', c', e1, e2, e3⟩ := hin
  rw [hu] at e1
  simp only [Option.some.injEq, Value.slice.injEq, true_and] at e1
  obtain ⟨rfl, rfl⟩ := e1
  refine ⟨by rw [hlen]; exact owns_kept h.1 hg e3, fun i x hx => ?_, h.2.2⟩
  by_cases hi : i = A.length
  · subst hi
    rw [List.getElem?_append_right (Nat.le_refl _), Nat.sub_self, List.getElem?_cons_zero, Option.some.injEq] at hx
    subst hx
    exact ⟨bo, c, by rw [hl]; exact hu, by rw [hl]; exact hown, e3⟩
  · have hx' : (A ++ l :: B)[i]? = some x := by
      rcases Nat.lt_or_ge i A.length with h' | h'
      · rw [List.getElem?_append_left h'] at hx ⊢; exact hx
      · obtain ⟨m, hm⟩ : ∃ m, i - A.length = m + 1 := ⟨i - A.length - 1, by omega⟩
        rw [List.getElem?_append_right h', hm, List.getElem?_cons_succ] at hx ⊢; exact hx
    obtain ⟨b2, c2, f1, f2, f3⟩ := h.2.1 i x hx'
    exact ⟨b2, c2, f1, owns_kept f2 hg (h.2.2 i A.length _ _ _ _ _ _ hi f1 hu), f3⟩

set_option maxRecDepth 100000 in
set_option maxHeartbeats 2000000 in
theorem markIntSS_any (ao : Option Addr) (cap k base : Nat) (L : List (List Int)) (us : List Value) (w : World) (hL : L.length ≤ 1048576) (hT : totR L ≤ 1048576) (hk1 : k ≤ 8388608) (hb0 : base ≤ w.heap.size) (h : RowsAt w base ao cap L us) :
    Calls Try.prog 20 #[.slice ao L.length cap, .int .i64 k] w
      fun e w' => e = .returned (.int .i64 ((k + totR L : Nat) : Int)) ∧ RowsAt w' base ao cap (marksR k L) us ∧ Below base w w' := by
  have HLL := Lib.hid (rows_len_mem hT)
  go_enter Try.func20, Try.ntmps20
  go_wp2
  go_loopw [1, 5] (fun t i wr => ∃ (j : Nat), j ≤ L.length ∧ i = .int .i64 j ∧ t = .int .i64 ((k + totR (L.take j) : Nat) : Int) ∧ RowsAt wr base ao cap (marksR k (L.take j) ++ L.drop j) us ∧ Below base w wr ∧ base ≤ wr.heap.size) (fun _ i _ => L.length - (intOf i).toNat)
  case atStart => exact ⟨0, Nat.zero_le _, rfl, rfl, by simpa [marksR] using h, Below.refl _ _, hb0⟩
  case round =>
    clear h
    obtain ⟨j, hj, rfl, rfl, hr, hB, hbs⟩ := hrel
    by_cases hlt : j < L.length
    · have hlt' : decide ((j : Int) < (L.length : Int)) = true := by rw [decide_eq_true_eq]; omega
      have hML : (marksR k (L.take j)).length = j := by rw [marksR_len, List.length_take]; omega
      have hRL : (marksR k (L.take j) ++ L.drop j).length = L.length := by rw [List.length_append, hML, List.length_drop]; omega
      have hgd : (marksR k (L.take j) ++ L.drop j).getD j [] = L.getD j [] := by
        rw [List.getD_eq_getElem?_getD, List.getD_eq_getElem?_getD, List.getElem?_append_right (by omega), hML, Nat.sub_self, List.getElem?_drop, Nat.add_zero]
      obtain ⟨bb, off, bo, c, rfl, k0, hown, hu⟩ := hr.cellRow (i := j) (by rw [hRL]; exact hlt)
      rw [hgd] at k0 hown hu
      have hll := HLL.out _ (getD_mem [] hlt)
      have htk := totR_take L j hlt
      have hle := totR_le L j
      have HSTP := Lib.hid (marksR_step k L j hlt)
      rw [drop_getD L j [] hlt] at hr
      have HTK := Lib.hid htk; clear htk
      generalize L.getD j [] = l at *
      have HMK := Lib.hid (fun w' (hg : wr.grownBy w' (Value.ownBlock (.slice bo l.length c))) (ho : w'.ownsRow base 3 1 (.slice bo l.length c) l.length ((marksI (k + totR (L.take j)) l.length).map (Value.int .i64))) => hr.put (by rw [hML]; exact hu) hg (marksI_len _ _) ho)
      clear hgd hu hr
      go_wp2_with (go_at_call 33; refine (markIntS_any bo c (k + totR (L.take j)) base l _ hll (by omega) hown).mono ?_; rintro e w2 ⟨rfl, ho2, hg2⟩)
      have hr2 := HMK.out w2 hg2 ho2
      have hlt3 := owns_lt hown
      go_roundw
      case rel => exact ⟨j + 1, by omega, by go_num, by rw [HTK.out]; congr 1; omega, by rw [HSTP.out]; exact hr2, hB.trans (below_of_grownBy hg2 hbs (fun q hq => by obtain ⟨a, ha, rfl⟩ := ownBlock_is hq; exact (hlt3 a ha).1)), Nat.le_trans hbs hg2.size⟩
      case measure => simp [intOf]; omega
    · obtain rfl : j = L.length := by omega
      have hlt' : decide ((L.length : Int) < (L.length : Int)) = false := by rw [decide_eq_false_iff_not]; omega
      rw [List.take_length, List.drop_length, List.append_nil] at hr
      go_wp2
      go_ret
      exact ⟨by rw [List.take_length]; rfl, hr, hB⟩

set_option maxRecDepth 100000 in
set_option maxHeartbeats 2000000 in
theorem heldIntSS_any (ao : Option Addr) (cap k base : Nat) (L : List (List Int)) (us : List Value) (w : World) (hL : L.length ≤ 1048576) (hT : totR L ≤ 1048576) (hk1 : k ≤ 8388608) (h : RowsAt w base ao cap (marksR k L) us) :
    Calls Try.prog 21 #[.slice ao L.length cap, .int .i64 k] w
      fun e w' => e = .returned (.int .i64 ((k + totR L : Nat) : Int)) ∧ Below w.heap.size w w' := by
  have HLL := Lib.hid (rows_len_mem hT)
  have HR := Lib.hid h
  clear h
  go_enter Try.func21, Try.ntmps21
  go_wp2
  go_loopw [1, 5] (fun t i wr => ∃ (j : Nat), j ≤ L.length ∧ i = .int .i64 j ∧ t = .int .i64 ((k + totR (L.take j) : Nat) : Int) ∧ Below w.heap.size w wr) (fun _ i _ => L.length - (intOf i).toNat)
  case atStart => exact ⟨0, Nat.zero_le _, rfl, rfl, Below.refl _ _⟩
  case round =>
    obtain ⟨j, hj, rfl, rfl, hB⟩ := hrel
    by_cases hlt : j < L.length
    · have hlt' : decide ((j : Int) < (L.length : Int)) = true := by rw [decide_eq_true_eq]; omega
      obtain ⟨bb, off, bo, c, rfl, k0, hown, _⟩ := (HR.out.below hB).cellRow (i := j) (by rw [marksR_len]; exact hlt)
      rw [marksR_getD k L j hlt, marksI_len] at k0 hown
      have hll := HLL.out _ (getD_mem [] hlt)
      have HTK := Lib.hid (totR_take L j hlt)
      have hle := totR_le L j
      have hng : decide (((k + totR (L.take j) + (L.getD j []).length : Nat) : Int) < 0) = false := by rw [decide_eq_false_iff_not]; omega
      generalize L.getD j [] = l at *
      go_wp2_with (go_at_call 34; refine (heldIntS_any bo c (k + totR (L.take j)) l.length _ hll (by omega) (owns_cells hown)).mono ?_; rintro e w2 ⟨rfl, hb2⟩)
      go_roundw
      case rel => exact ⟨j + 1, by omega, by go_num, by rw [HTK.out]; congr 1; omega, below_step hB hB.size hb2⟩
      case measure => simp [intOf]; omega
    · obtain rfl : j = L.length := by omega
      have hlt' : decide ((L.length : Int) < (L.length : Int)) = false := by rw [decide_eq_false_iff_not]; omega
      go_wp2
      go_ret
      exact ⟨by rw [List.take_length]; rfl, hB⟩

end Go.Proofs.Ytdipcemiepmanaa
