
/-
  Merged texts: OrdE OrdF.
-/
import Derived.Test.YteallnkaapdifaaOrdAB

/-
  The same permutations: lists compared, both sides. (Walks.)
-/
namespace Go.Proofs.Yteallnkaapdifaa
open Go.RowKit

theorem take_eq_step {S T : List Int} {k : Nat} (h1 : k < S.length) (h2 : k < T.length) (h : S.take k = T.take k) (he : S.getD k 0 = T.getD k 0) : S.take (k + 1) = T.take (k + 1) := by
  rw [ints_push S k h1, ints_push T k h2, h, he]
theorem nth_ne {S T : List Int} {k : Nat} (he : ¬ S.getD k 0 = T.getD k 0) : S ≠ T := fun e => he (by rw [e])
theorem cells_int {w : World} {ao : Option Addr} {S : List Int} (h : CellsAt w ao (S.map (Value.int .i64))) {i : Nat} (hi : i < S.length) : ∃ b off, ao = some ⟨b, off, none⟩ ∧ w.cell? ⟨b, off + i, none⟩ = some (.int .i64 (S.getD i 0)) :=
  h i _ (by rw [List.getElem?_map, List.getElem?_eq_getElem hi]; simp [hi])

set_option maxHeartbeats 400000 in
theorem slicesEqualI_any (ao bo : Option Addr) (ca cb ln lm : Nat) (S T : List Int) (w : World) (hln : S.length = ln) (hlm : T.length = lm) (hl : S.length ≤ 1048576)
    (ha : CellsAt w ao (S.map (Value.int .i64))) (hb : CellsAt w bo (T.map (Value.int .i64))) :
    Calls Try.prog 47 #[.slice ao ln ca, .slice bo lm cb] w
      fun e w' => e = .returned (.bool (decide (S = T))) ∧ Quiet w w' := by
  subst hln; subst hlm
  go_enter Try.func47, Try.ntmps47
  by_cases hlen : S.length = T.length
  · have hne : ((S.length : Int) != (T.length : Int)) = false := by simp [hlen]
    go_wp2
    go_loopw [13] (fun i wr => ∃ (k q : Nat), k ≤ S.length ∧ i = .int .i64 k ∧ wr = w.drewN q ∧ S.take k = T.take k) (fun i _ => S.length - (intOf i).toNat)
    case atStart => exact ⟨0, 0, Nat.zero_le _, rfl, rfl, rfl⟩
    case round =>
      obtain ⟨k, q, hk, rfl, rfl, hq⟩ := hrel
      have HQ := Lib.hid hq; clear hq
      by_cases hlt : k < S.length
      · have hlt' : k < T.length := by omega
        obtain ⟨b, off, rfl, hck⟩ := cells_int ha hlt
        obtain ⟨b', off', rfl, hck'⟩ := cells_int hb hlt'
        have HS := Lib.hid (take_eq_step hlt hlt' HQ.out)
        have HN := Lib.hid (@nth_ne S T k)
        have HL := Lib.hid hlen
        clear ha hb hlen
        generalize S.getD k 0 = s at *
        generalize T.getD k 0 = t at *
        by_cases hst : s = t
        · have hd : (s != t) = false := by simp [hst]
          go_wp2
          go_quiet (fail)
          go_wp2
          go_roundw
          case rel => exact ⟨k + 1, q + nq, by omega, by go_num, by simp, HS.out hst⟩
          case measure => simp [intOf]; omega
        · have hd : (s != t) = true := by simp [hst]
          go_wp2
          go_quiet (fail)
          go_wp2
          go_ret
          exact ⟨ret_bool (decide_eq_false (HN.out hst)).symm, q + nq, by simp⟩
      · have he : S = T := by have := HQ.out; rwa [List.take_of_length_le (by omega), List.take_of_length_le (by omega)] at this
        have HE := Lib.hid he; clear he
        go_wp2
        go_ret
        exact ⟨ret_bool (decide_eq_true HE.out).symm, _, rfl⟩
  · have hne : ((S.length : Int) != (T.length : Int)) = true := by simp; omega
    have HF := Lib.hid (show ¬ S = T from fun e => hlen (by rw [e])); clear hlen
    go_wp2
    go_ret
    exact ⟨ret_bool (decide_eq_false HF.out).symm, 0, rfl⟩

set_option maxHeartbeats 400000 in
theorem l5Equal_any (ao bo : Option Addr) (ca cb ln lm : Nat) (S T : List Int) (w : World) (hln : S.length = ln) (hlm : T.length = lm) (hl : S.length ≤ 1048576)
    (ha : CellsAt w ao (S.map (Value.int .i64))) (hb : CellsAt w bo (T.map (Value.int .i64))) :
    Calls Try.prog 46 #[.slice ao ln ca, .slice bo lm cb] w
      fun e w' => e = .returned (.bool (decide (S = T))) ∧ Quiet w w' := by
  subst hln; subst hlm
  go_enter Try.func46, Try.ntmps46
  by_cases hlen : S.length = T.length
  · have hne : ((S.length : Int) != (T.length : Int)) = false := by simp [hlen]
    go_wp2
    go_loopw [5] (fun i wr => ∃ (k q : Nat), k ≤ S.length ∧ i = .int .i64 k ∧ wr = w.drewN q ∧ S.take k = T.take k) (fun i _ => S.length - (intOf i).toNat)
    case atStart => exact ⟨0, 0, Nat.zero_le _, rfl, rfl, rfl⟩
    case round =>
      obtain ⟨k, q, hk, rfl, rfl, hq⟩ := hrel
      have HQ := Lib.hid hq; clear hq
      by_cases hlt : k < S.length
      · have hlt' : k < T.length := by omega
        obtain ⟨b, off, rfl, hck⟩ := cells_int ha hlt
        obtain ⟨b', off', rfl, hck'⟩ := cells_int hb hlt'
        have HS := Lib.hid (take_eq_step hlt hlt' HQ.out)
        have HN := Lib.hid (@nth_ne S T k)
        have HL := Lib.hid hlen
        clear ha hb hlen
        generalize S.getD k 0 = s at *
        generalize T.getD k 0 = t at *
        by_cases hst : s = t
        · have hd : (s != t) = false := by simp [hst]
          go_wp2
          go_quiet (fail)
          go_wp2
          go_roundw
          case rel => exact ⟨k + 1, q + nq, by omega, by go_num, by simp, HS.out hst⟩
          case measure => simp [intOf]; omega
        · have hd : (s != t) = true := by simp [hst]
          go_wp2
          go_quiet (fail)
          go_wp2
          go_ret
          exact ⟨ret_bool (decide_eq_false (HN.out hst)).symm, q + nq, by simp⟩
      · have he : S = T := by have := HQ.out; rwa [List.take_of_length_le (by omega), List.take_of_length_le (by omega)] at this
        have HE := Lib.hid he; clear he
        go_wp2
        go_ret
        exact ⟨ret_bool (decide_eq_true HE.out).symm, _, rfl⟩
  · have hne : ((S.length : Int) != (T.length : Int)) = true := by simp; omega
    have HF := Lib.hid (show ¬ S = T from fun e => hlen (by rw [e])); clear hlen
    go_wp2
    go_ret
    exact ⟨ret_bool (decide_eq_false HF.out).symm, 0, rfl⟩

theorem held_cells {w : World} {g : Nat} {S : List Nat} (h : HeldB w g 3 (setsV S)) : CellsAt w (some ⟨g, 0, none⟩) ((intsL S).map (Value.int .i64)) := fun i u hu => by
  refine ⟨g, 0, rfl, ?_⟩
  rw [Nat.zero_add, h.cell i, ← hu]
  simp [setsV, intsL, Function.comp_def]
def ordSame (p q : List ByteArray) : Bool := plainB p && plainB q && decide (intsL (permL p) = intsL (permL q))

set_option maxRecDepth 100000 in
set_option maxHeartbeats 4000000 in
theorem implOrderSame_any (ao bo : Option Addr) (cap cbp : Nat) (p q : List ByteArray) (w : World) (hl : p.length ≤ 1048576) (hs : ∀ s ∈ p, s.size ≤ 1048576) (hc : CellsAt w ao (p.map Value.string)) (hl2 : q.length ≤ 1048576) (hs2 : ∀ s ∈ q, s.size ≤ 1048576) (hc2 : CellsAt w bo (q.map Value.string)) :
    Calls Try.prog 31 #[.slice ao p.length cap, .slice bo q.length cbp] w fun e w' => e = .returned (.bool (ordSame p q)) ∧ Below w.heap.size w w' := by
  have HZ0 := Lib.hid zero_ordC
  have HZS := Lib.hid (show (ordC zeroC noF).size = 201 from ordC_size (planC_size _ _ _ _) _)
  have HRO := Lib.hid (fun w hc => readOrder_any ao cap p w hl hs hc)
  have HRQ := Lib.hid (fun w hc => readOrder_any bo cbp q w hl2 hs2 hc)
  have HPP := Lib.hid (fun w => permP_any p w)
  have HPQ := Lib.hid (fun w => permP_any q w)
  have HI := Lib.hid (ordP_info p)
  have HS := Lib.hid (ordP_size p)
  have HN := Lib.hid (ordP_one p)
  have HI2 := Lib.hid (ordP_info q)
  have HS2 := Lib.hid (ordP_size q)
  have HN2 := Lib.hid (ordP_one q)
  have HLP := Lib.hid (show (permL p).length ≤ 9 by rw [permL_len]; exact oR_le p)
  have HLQ := Lib.hid (show (permL q).length ≤ 9 by rw [permL_len]; exact oR_le q)
  unfold ordSame
  generalize permL p = SP at *
  generalize permL q = SQ at *
  generalize ordP p = D at *
  generalize ordP q = E at *
  generalize plainB p = x at *
  generalize plainB q = y at *
  generalize ordC zeroC noF = Z at *
  clear hl hs hl2 hs2
  go_enter Try.func31, Try.ntmps31
  go_wp2_with (first
    | (refine wpList_alloc_zero rfl 46 rfl Z HZ0.out ?_)
    | (refine wpList_store_new rfl 46 _ _ rfl _ Z E rfl rfl rfl HI2.out (by rw [HZS.out, HS2.out]) HN2.out ?_)
    | (refine wpList_store_new rfl 46 _ _ rfl _ Z D rfl rfl rfl HI.out (by rw [HZS.out, HS.out]) HN.out ?_)
    | (go_at_call 36; refine (HRO.out _ hc).mono ?_; rintro e w1 ⟨rfl, hb1⟩; have hbD := HeldB.new w1 46 D; have hq2 := (hc2.below hb1).below (below_alloc w1 (.cells D 46)); clear HRO)
    | (go_at_call 36; refine (HRQ.out _ hq2).mono ?_; rintro e w2 ⟨rfl, hb2⟩; have hbD2 := (hbD.below hb2).alloc (.cells E 46); have hbE := HeldB.new w2 46 E))
  have hB2 : Below w.heap.size w (w2.alloc (.cells E 46)) := (below_step (below_step hb1 hb1.size (below_alloc w1 (.cells D 46))) (by have := hb1.size; simp; omega) hb2).trans ((below_alloc w2 (.cells E 46)).mono (by have := hb1.size; have := hb2.size; simp at this; omega))
  generalize w2.alloc (.cells E 46) = W2 at *
  generalize w1.heap.size = B1 at *
  generalize w2.heap.size = B2 at *
  clear hb2 hbD hq2 hc hc2 hb1 HRQ
  cases x
  · go_region
    all_goals
      go_wp2
      go_ret
      exact ⟨rfl, hB2.trans (below_drewN _ W2 1)⟩
  · cases y
    · go_region
      all_goals
        go_wp2
        go_ret
        exact ⟨rfl, hB2.trans (below_drewN _ W2 1)⟩
    · refine wp_region_held (S := fun w' => HeldB w' B1 46 D ∧ HeldB w' B2 46 E) (by kernel_rfl) ?_
      have hBd : Below w.heap.size w ({ W2 with drawn := W2.drawn + 1 } : World) := hB2.trans (below_drewN _ W2 1)
      have hS : HeldB ({ W2 with drawn := W2.drawn + 1 } : World) B1 46 D ∧ HeldB ({ W2 with drawn := W2.drawn + 1 } : World) B2 46 E := ⟨hbD2, hbE⟩
      generalize ({ W2 with drawn := W2.drawn + 1 } : World) = W3 at *
      clear hbD2 hbE hB2
      change Go.wpAnyH Try.prog Region.Mode.any _ _ _ 12 (Array.replicate 12 false) _ _
      refine wpAnyH_take (i := 0) (v := .bool true) rfl (by kernel_rfl) (by kernel_rfl) (by kernel_rfl) (fun _ _ _ h => h) (Yields.yieldsIf (Or.inl ⟨by rfl, fun w => by go_simp⟩)) hS ?_
      refine wpAnyH_take (i := 1) (v := .bool true) rfl (by kernel_rfl) (by kernel_rfl) (by kernel_rfl) (fun _ _ _ h => h) (Yields.yieldsIf (Or.inl ⟨by rfl, fun w => by go_simp⟩)) hS ?_
      refine wpAnyH_take (i := 2) (v := .bool true) rfl (by kernel_rfl) (by kernel_rfl) (by kernel_rfl) (fun _ _ _ h => h) (Yields.yieldsIf (Or.inl ⟨by kernel_rfl, fun w => by go_simp⟩)) hS ?_
      refine wpAnyH_take (i := 3) (v := .bool true) rfl (by kernel_rfl) (by kernel_rfl) (by kernel_rfl) (fun _ _ _ h => h) (Yields.yieldsIf (Or.inl ⟨by kernel_rfl, fun w => by go_simp⟩)) hS ?_
      refine wpAnyH_take (i := 4) (v := .bool true) rfl (by kernel_rfl) (by kernel_rfl) (by kernel_rfl) (fun _ _ _ h => h) (Yields.yieldsIf (Or.inl ⟨by kernel_rfl, fun w => by go_simp⟩)) hS ?_
      refine wpAnyH_take (i := 5) (v := .agg D) rfl (by kernel_rfl) (by kernel_rfl) (by kernel_rfl) (fun _ _ _ h => h) (yieldsIf_load_row (by kernel_rfl) 46 _ rfl B1 (by rfl) 46 D _ (fun _ h => h.1) Try.underlying46 rfl HI.out) hS ?_
      refine wpAnyH_take (i := 7) (v := .agg E) rfl (by kernel_rfl) (by kernel_rfl) (by kernel_rfl) (fun _ _ _ h => h) (yieldsIf_load_row (by kernel_rfl) 46 _ rfl B2 (by rfl) 46 E _ (fun _ h => h.2) Try.underlying46 rfl HI2.out) hS ?_
      refine wpAnyH_all (rs := [6]) (by kernel_rfl) (by decide) ?_
      intro i hi
      simp only [List.mem_cons, List.not_mem_nil, or_false] at hi
      subst hi
      refine wpOp_go rfl (by kernel_rfl) ?_
      unfold Oper.wp
      go_simp
      refine (HPP.out _).mono ?_
      rintro e w3 ⟨⟨g1, hg1, rfl, hP1⟩, hb3⟩
      have hS3 := And.intro (hS.1.below hb3) (hS.2.below hb3)
      have hB3 := below_step hBd hBd.size hb3
      refine ⟨hS3, ?_⟩
      refine wpAnyH_all (rs := [8]) (by kernel_rfl) (by decide) ?_
      intro i hi
      simp only [List.mem_cons, List.not_mem_nil, or_false] at hi
      subst hi
      refine wpOp_go rfl (by kernel_rfl) ?_
      unfold Oper.wp
      go_simp
      refine (HPQ.out _).mono ?_
      rintro e w4 ⟨⟨g2, hg2, rfl, hP2⟩, hb4⟩
      have hS4 := And.intro (hS3.1.below hb4) (hS3.2.below hb4)
      have hB4 := below_step hB3 hB3.size hb4
      have hP14 := hP1.below hb4
      refine ⟨hS4, ?_⟩
      refine wpAnyH_all (rs := [9]) (by kernel_rfl) (by decide) ?_
      intro i hi
      simp only [List.mem_cons, List.not_mem_nil, or_false] at hi
      subst hi
      refine wpOp_go rfl (by kernel_rfl) ?_
      unfold Oper.wp
      go_simp
      refine (slicesEqualI_any (some ⟨g1, 0, none⟩) (some ⟨g2, 0, none⟩) _ _ _ _ (intsL SP) (intsL SQ) _ (intsL_len SP) (intsL_len SQ) (by rw [intsL_len]; have := HLP.out; omega) (held_cells hP14) (held_cells hP2)).mono ?_
      rintro e w5 ⟨rfl, hq5⟩
      have hb5 := hq5.below w4.heap.size
      have hS5 := And.intro (hS4.1.below hb5) (hS4.2.below hb5)
      have hB5 := below_step hB4 hB4.size hb5
      refine ⟨hS5, ?_⟩
      refine wpAnyH_take (i := 10) (v := .bool (decide (intsL SP = intsL SQ))) rfl (by kernel_rfl) (by kernel_rfl) (by kernel_rfl) (fun _ _ _ h => h) (Yields.yieldsIf (Or.inl ⟨by kernel_rfl, fun w => by go_simp⟩)) hS5 ?_
      refine wpAnyH_take (i := 11) (v := .bool (decide (intsL SP = intsL SQ))) rfl (by kernel_rfl) (by kernel_rfl) (by kernel_rfl) (fun _ _ _ h => h) (Yields.yieldsIf (Or.inl ⟨by kernel_rfl, fun w => by go_simp⟩)) hS5 ?_
      refine wpAnyH_done (by kernel_rfl) ?_ _
      go_wp2
      go_ret
      exact ⟨rfl, hB5⟩
end Go.Proofs.Yteallnkaapdifaa

/-
  The same permutations: the model's answer. (Walk.)
-/
namespace Go.Proofs.Yteallnkaapdifaa
open Go.RowKit

set_option maxRecDepth 100000 in
set_option maxHeartbeats 4000000 in
theorem specOrderSame_any (ao bo : Option Addr) (cap cbp : Nat) (p q : List ByteArray) (w : World) (hl : p.length ≤ 1048576) (hs : ∀ s ∈ p, s.size ≤ 1048576) (hc : CellsAt w ao (p.map Value.string)) (hl2 : q.length ≤ 1048576) (hs2 : ∀ s ∈ q, s.size ≤ 1048576) (hc2 : CellsAt w bo (q.map Value.string)) :
    Calls Try.prog 30 #[.slice ao p.length cap, .slice bo q.length cbp] w fun e w' => e = .returned (.bool (ordSame p q)) ∧ Below w.heap.size w w' := by
  have H1 := Lib.hid (fun w hc => l5Plain_any ao cap p w hl hs hc)
  have H2 := Lib.hid (fun w hc => l5Plain_any bo cbp q w hl2 hs2 hc)
  unfold ordSame
  cases hp : plainB p
  · rw [hp] at H1
    rw [Bool.false_and, Bool.false_and]
    clear H2
    go_enter Try.func30, Try.ntmps30
    go_wp2_with (go_at_call 38; refine (H1.out _ hc).mono ?_; rintro e w1 ⟨rfl, hb1⟩)
    go_ret
    exact ⟨rfl, hb1⟩
  · rw [hp] at H1
    cases hq : plainB q
    · rw [hq] at H2
      rw [Bool.and_false, Bool.false_and]
      go_enter Try.func30, Try.ntmps30
      go_wp2_with (first
        | (go_at_call 38; refine (H1.out _ hc).mono ?_; rintro e w1 ⟨rfl, hb1⟩; have hc3 := hc2.below hb1; clear H1)
        | (go_at_call 38; refine (H2.out _ hc3).mono ?_; rintro e w2 ⟨rfl, hb2⟩))
      go_ret
      exact ⟨rfl, below_step hb1 hb1.size hb2⟩
    · rw [hq] at H2
      rw [Bool.true_and, Bool.true_and]
      have H3 := Lib.hid (fun w hc => l5Perm_any ao cap p w hl hs hp hc)
      have H4 := Lib.hid (fun w hc => l5Perm_any bo cbp q w hl2 hs2 hq hc)
      have HLP := Lib.hid (show (intsL (permL p)).length ≤ 9 by rw [intsL_len, permL_len]; exact oR_le p)
      generalize intsL (permL p) = S at *
      generalize intsL (permL q) = T at *
      clear hp hq hl hs hl2 hs2
      go_enter Try.func30, Try.ntmps30
      go_wp2_with (first
        | (go_at_call 38; refine (H1.out _ hc).mono ?_; rintro e w1 ⟨rfl, hb1⟩; have hc3 := hc2.below hb1; clear H1)
        | (go_at_call 38; refine (H2.out _ hc3).mono ?_; rintro e w2 ⟨rfl, hb2⟩; have hc4 := (hc.below hb1).below hb2; clear H2)
        | (go_at_call 44; refine (H3.out _ hc4).mono ?_; rintro e w3 ⟨r1, c1, rfl, o1, hb3⟩; have hc5 := (hc3.below hb2).below hb3; clear H3)
        | (go_at_call 44; refine (H4.out _ hc5).mono ?_; rintro e w4 ⟨r2, c2, rfl, o2, hb4⟩)
        | (go_at_call 46; refine (l5Equal_any r1 r2 _ _ _ _ S T _ rfl rfl (by have := HLP.out; omega) ((owns_cells o1).below hb4) (owns_cells o2)).mono ?_; rintro e w5 ⟨rfl, hq5⟩))
      go_ret
      have s1 := hb1.size
      have s2 := hb2.size
      have s3 := hb3.size
      have s4 := hb4.size
      exact ⟨rfl, ((((hb1.trans (hb2.mono (by omega))).trans (hb3.mono (by omega))).trans (hb4.mono (by omega))).trans (hq5.below w.heap.size))⟩
end Go.Proofs.Yteallnkaapdifaa
