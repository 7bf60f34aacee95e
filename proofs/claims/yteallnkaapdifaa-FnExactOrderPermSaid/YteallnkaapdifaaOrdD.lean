
/-
  The permutation of an order: the model's. (Plain mathematics, and walks.)
-/
import Derived.Test.YteallnkaapdifaaOrdB
import Derived.Test.YteallnkaapdifaaOrdC
namespace Go.Proofs.Yteallnkaapdifaa
open Go.RowKit

/-- both orders of a plain plan are lines -/
theorem first_lin {p : List ByteArray} (h : plainB p = true) : Lin (firstQ (pL p)) (gridR p) := by
  have or4 : ∀ a b : Nat, firstQ (pL p) a b = true ↔ pL p 0 a b = true ∨ pL p 1 a b = true := fun a b => by unfold firstQ; rw [Bool.or_eq_true]
  refine ⟨fun a ha => ?_, fun a b ha hb hne => ?_, fun a b c ha hb hc h1 h2 => ?_⟩
  · have := firstQ_irr p a (by rw [oR_yes h]; exact ha); rwa [oF_yes h] at this
  · rw [or4, or4]
    rcases pL_some (plainB_plan h) ha hb hne with e | e | e | e
    · exact .inl (.inl e)
    · exact .inr (.inl e)
    · exact .inl (.inr e)
    · exact .inr (.inr e)
  · rw [or4] at h1 h2
    rw [or4]
    by_cases hac : a = c
    · subst hac
      exfalso
      rcases h1 with h1 | h1 <;> rcases h2 with h2 | h2
      · rw [(pL_one h ha hb h1).1] at h2; cases h2
      · rw [(pL_one h ha hb h1).2.2] at h2; cases h2
      · rw [(pL_over h ha hb h1).2.2] at h2; cases h2
      · rw [(pL_over h ha hb h1).1] at h2; cases h2
    · rcases pL_some (plainB_plan h) ha hc hac with e | e | e | e
      · exact .inl e
      · exfalso
        -- c is left of a
        rcases h1 with h1 | h1
        · have hcb := pL_trans (by omega) e h1
          rcases h2 with h2 | h2
          · rw [(pL_one h hc hb hcb).1] at h2; cases h2
          · rw [(pL_one h hc hb hcb).2.2] at h2; cases h2
        · rcases h2 with h2 | h2
          · have hba := pL_trans (by omega) h2 e
            rw [(pL_one h hb ha hba).2.2] at h1; cases h1
          · have hca := pL_trans (by omega) h1 h2
            rw [(pL_over h ha hc hca).2.2] at e; cases e
      · exact .inr e
      · exfalso
        rcases h1 with h1 | h1
        · rcases h2 with h2 | h2
          · have hca := pL_trans (by omega) h1 h2
            rw [(pL_one h ha hc hca).2.2] at e; cases e
          · have hba := pL_trans (by omega) h2 e
            rw [(pL_over h hb ha hba).2.2] at h1; cases h1
        · have hcb := pL_trans (by omega) e h1
          rcases h2 with h2 | h2
          · rw [(pL_over h hc hb hcb).2.2] at h2; cases h2
          · rw [(pL_over h hc hb hcb).1] at h2; cases h2
theorem second_lin {p : List ByteArray} (h : plainB p = true) : Lin (secondQ (pL p)) (gridR p) := by
  have or4 : ∀ a b : Nat, secondQ (pL p) a b = true ↔ pL p 0 a b = true ∨ pL p 1 b a = true := fun a b => by unfold secondQ; rw [Bool.or_eq_true]
  refine ⟨fun a ha => ?_, fun a b ha hb hne => ?_, fun a b c ha hb hc h1 h2 => ?_⟩
  · have := secondQ_irr p a (by rw [oR_yes h]; exact ha); rwa [oF_yes h] at this
  · rw [or4, or4]
    rcases pL_some (plainB_plan h) ha hb hne with e | e | e | e
    · exact .inl (.inl e)
    · exact .inr (.inl e)
    · exact .inr (.inr e)
    · exact .inl (.inr e)
  · rw [or4] at h1 h2
    rw [or4]
    by_cases hac : a = c
    · subst hac
      exfalso
      rcases h1 with h1 | h1 <;> rcases h2 with h2 | h2
      · rw [(pL_one h ha hb h1).1] at h2; cases h2
      · rw [(pL_one h ha hb h1).2.1] at h2; cases h2
      · rw [(pL_over h hb ha h1).2.1] at h2; cases h2
      · rw [(pL_over h hb ha h1).1] at h2; cases h2
    · rcases pL_some (plainB_plan h) ha hc hac with e | e | e | e
      · exact .inl e
      · exfalso
        rcases h1 with h1 | h1
        · have hcb := pL_trans (by omega) e h1
          rcases h2 with h2 | h2
          · rw [(pL_one h hc hb hcb).1] at h2; cases h2
          · rw [(pL_one h hc hb hcb).2.1] at h2; cases h2
        · rcases h2 with h2 | h2
          · have hba := pL_trans (by omega) h2 e
            rw [(pL_one h hb ha hba).2.1] at h1; cases h1
          · have hca := pL_trans (by omega) h2 h1
            rw [(pL_over h hc ha hca).2.1] at e; cases e
      · exfalso
        -- a is above c
        rcases h1 with h1 | h1
        · rcases h2 with h2 | h2
          · have hca := pL_trans (by omega) h1 h2
            rw [(pL_one h ha hc hca).2.1] at e; cases e
          · have hab := pL_trans (by omega) e h2
            rw [(pL_one h ha hb h1).2.1] at hab; cases hab
        · have hbc := pL_trans (by omega) h1 e
          rcases h2 with h2 | h2
          · rw [(pL_one h hb hc h2).2.1] at hbc; cases hbc
          · rw [(pL_over h hb hc hbc).1] at h2; cases h2
      · exact .inr e

/-- the model's places: each place told to the room there -/
def placK (q : Nat → Nat → Bool) (r : Nat) : Nat → List Nat
  | 0 => List.replicate r 0
  | k + 1 => (placK q r k).set ((lineN q r r).getD k 0) k
theorem placK_len (q : Nat → Nat → Bool) (r : Nat) : ∀ k, (placK q r k).length = r
  | 0 => List.length_replicate
  | k + 1 => by rw [placK, List.length_set]; exact placK_len q r k
theorem placK_at {q : Nat → Nat → Bool} {r : Nat} (L : Lin q r) : ∀ k, k ≤ r → ∀ x, x < r → placeN q r x < k → (placK q r k).getD x 0 = placeN q r x
  | 0, _, x, _, h => by omega
  | k + 1, hk, x, hx, h => by
    obtain ⟨b1, b2⟩ := L.back (k := k) (by omega)
    rw [placK, getD_set _ _ _ _ (by rw [placK_len]; exact b2)]
    by_cases he : x = (lineN q r r).getD k 0
    · rw [if_pos he]; rw [← he] at b1; exact b1.symm
    · rw [if_neg he]
      refine placK_at L k (by omega) x hx ?_
      rcases Nat.lt_or_ge (placeN q r x) k with h1 | h1
      · exact h1
      · exfalso
        exact he (L.inj hx b2 (by omega))

theorem permQ_at {q1 q2 : Nat → Nat → Bool} {r i : Nat} (hi : i < r) : (permQ q1 q2 r).getD i 0 = placeN q1 r ((lineN q2 r r).getD i 0) := by simp [permQ, hi]
theorem ints_push (L : List Int) (i : Nat) (h : i < L.length) : L.take (i + 1) = L.take i ++ [L.getD i 0] := by
  rw [List.take_succ_eq_append_getElem h]; simp [h]

set_option maxRecDepth 100000 in
set_option maxHeartbeats 4000000 in
theorem l5Perm_any (ao : Option Addr) (cap : Nat) (p : List ByteArray) (w : World) (hl : p.length ≤ 1048576) (hs : ∀ s ∈ p, s.size ≤ 1048576) (hpl : plainB p = true) (hc : CellsAt w ao (p.map Value.string)) :
    Calls Try.prog 44 #[.slice ao p.length cap] w
      fun e w' => ∃ ro rc, e = .returned (.slice ro (intsL (permL p)).length rc) ∧ w'.ownsRow w.heap.size 3 1 (.slice ro (intsL (permL p)).length rc) (intsL (permL p)).length ((intsL (permL p)).map (Value.int .i64)) ∧ Below w.heap.size w w' := by
  have HA := Lib.hid (fun w hc => l5SortedFirst_any ao cap p w hl hs hpl hc)
  have HB := Lib.hid (fun w hc => l5SortedSecond_any ao cap p w hl hs hpl hc)
  have hr9 := (planP_of (plainB_plan hpl)).few
  have L1 := first_lin hpl
  have L2 := second_lin hpl
  unfold firstL at HA
  unfold secondL at HB
  unfold permL
  rw [oR_yes hpl, oF_yes hpl] at HA HB
  rw [oR_yes hpl, oF_yes hpl]
  clear hl hs hpl
  generalize firstQ (pL p) = q at *
  generalize secondQ (pL p) = q2 at *
  generalize gridR p = r at *
  have HBK := Lib.hid (fun k (hk : k < r) => (L1.back hk).2)
  have HBK2 := Lib.hid (fun k (hk : k < r) => (L2.back hk).2)
  have HPA := Lib.hid (fun x (hx : x < r) => placK_at L1 r (Nat.le_refl _) x hx (L1.lt hx))
  have HPL := Lib.hid (fun k => placK_len q r k)
  have HPS := Lib.hid (fun k => show (placK q r k).set ((lineN q r r).getD k 0) k = placK q r (k + 1) from rfl)
  have HP0 := Lib.hid (show placK q r 0 = List.replicate r 0 from rfl)
  have HL1 := Lib.hid (lineN_len q r r)
  have HL2 := Lib.hid (lineN_len q2 r r)
  have HTL := Lib.hid (show (intsL (permQ q q2 r)).length = r by rw [intsL_len, permQ_len])
  have HTA := Lib.hid (fun i (hi : i < r) => show (intsL (permQ q q2 r)).getD i 0 = ((placeN q r ((lineN q2 r r).getD i 0) : Nat) : Int) by
    rw [← permQ_at hi]; simp [intsL, permQ_len, hi])
  clear L1 L2
  generalize intsL (permQ q q2 r) = T at *
  generalize lineN q r r = A at *
  generalize lineN q2 r r = B at *
  obtain ⟨im, hmi, hmz, hm1, hm2⟩ := info_parts Try.infoNum
  go_enter Try.func44, Try.ntmps44
  go_wp2_with (first
    | (go_at_call 39; refine (HA.out _ hc).mono ?_; rintro e w1 ⟨⟨g3, hg3, rfl, hB3⟩, hb1⟩; rw [HL1.out]; have hc1 := hc.below hb1; clear HA)
    | (go_at_call 39; refine (HB.out _ hc1).mono ?_; rintro e w2 ⟨⟨g4, hg4, rfl, hB4⟩, hb2⟩; rw [HL2.out]; clear HB)
    | (at_make; refine wpList_make_full _ rfl _ _ 29 rfl w.heap.size 3 im (.int .i64 0) 1 Try.underlying29 hmi hmz hm1 .i64 .i64 _ _ r rfl rfl rfl rfl ?d2 ?d3 (by have := hb1.size; have := hb2.size; omega) ?_; rotate_left 2; intro w3 ho3 hg5; have hb3 : Below w2.heap.size w2 w3 := below_of_grownBy hg5 (Nat.le_refl _) (fun k hk => by cases hk); have hz := held_zeros ho3))
  case d2 => rw [hm2]; omega
  case d3 => unfold maxLen; omega
  have l3 := (hB3.below hb2).lt
  have l4 := hB4.lt
  have hs1 := hb1.size
  have hs2 := hb2.size
  obtain ⟨gp, hgp⟩ : ∃ gp, gp = w2.heap.size := ⟨_, rfl⟩
  rw [← hgp] at hz ⊢
  have n3 : g3 ≠ gp := by omega
  have n4 : g4 ≠ gp := by omega
  have n0 : w.heap.size ≤ gp := by omega
  have st3 : SoSt w g3 g4 gp A B (placK q r 0) w3 := ⟨(hB3.below hb2).below hb3, hB4.below hb3, by rw [HP0.out]; exact hz, below_step (below_step hb1 hs1 hb2) (by omega) hb3⟩
  clear hz hB3 hB4 hb1 hb2 hb3 ho3 hg5 hc1 hc l3 l4 hs1 hs2 hgp hg3 hg4
  go_loopw [6] (fun v wr => ∃ k : Nat, k ≤ r ∧ v = .int .i64 k ∧ SoSt w g3 g4 gp A B (placK q r k) wr) (fun v _ => r - (intOf v).toNat)
  case atStart => exact ⟨0, Nat.zero_le _, rfl, st3⟩
  case round =>
    clear st3
    obtain ⟨k, hk, rfl, hst⟩ := hrel
    by_cases hkr : k < r
    · have hlt := HBK.out k hkr
      have hll := HPL.out k
      have k1 : wr.cell? ⟨g3, k, none⟩ = some (.int .i64 (A.getD k 0 : Nat)) := (hst.1.cell k).trans (setsV_at (by rw [HL1.out]; exact hkr))
      have hst2 := hst.put n3 n4 n0 (A.getD k 0) k (HPS.out k)
      have f1 := hst.2.2.1.frozen (A.getD k 0)
      have k2 : wr.cell? ⟨gp, A.getD k 0, none⟩ = some (.int .i64 ((placK q r k).getD (A.getD k 0) 0 : Nat)) := (hst.2.2.1.cell _).trans (setsV_at (by rw [hll]; exact hlt))
      have hkri : (k : Int) < (r : Int) := by omega
      have hlti : ((A.getD k 0 : Nat) : Int) < (r : Int) := by omega
      generalize (placK q r k).getD (A.getD k 0) 0 = z at *
      generalize A.getD k 0 = y at *
      clear hst
      go_wp2
      go_roundw
      case rel => exact ⟨k + 1, by omega, by go_num, hst2⟩
      case measure => simp [intOf]; omega
    · obtain rfl : k = r := by omega
      have HPA2 := HPA
      have hlp := HPL.out k
      generalize placK q k k = PL at *
      have hb0 := hst.2.2.2.trans ((below_alloc wr (.cells #[] 3)).mono hst.2.2.2.size)
      have hr0 : (wr.alloc (.cells #[] 3)).ownsRow wr.heap.size 3 1 (.slice (some ⟨wr.heap.size, 0, none⟩) 0 0) (T.take 0).length ((T.take 0).map (Value.int .i64)) := World.ownsRow_made wr #[] 0 (Nat.le_refl _) (Nat.zero_le _) rfl
      have hB4 := hst.2.1.alloc (.cells #[] 3)
      have hBp := hst.2.2.1.alloc (.cells #[] 3)
      have l4 := hst.2.1.lt
      have lp := hst.2.2.1.lt
      have lw := hst.2.2.2.size
      obtain ⟨BB, hBB⟩ : ∃ BB, BB = wr.heap.size := ⟨_, rfl⟩
      have hBW : BB ≤ (wr.alloc (.cells #[] 3)).heap.size := by simp; omega
      rw [← hBB] at hr0 l4 lp lw
      go_wp2
      rw [← hBB]
      clear hst hBB
      go_loopw [7, 8] (fun vo vi wm => ∃ (i : Nat) (ro : Option Addr) (rc : Nat), i ≤ k ∧ vi = .int .i64 i ∧ vo = .slice ro (T.take i).length rc ∧ wm.ownsRow BB 3 1 (.slice ro (T.take i).length rc) (T.take i).length ((T.take i).map (Value.int .i64)) ∧ HeldB wm g4 3 (setsV B) ∧ HeldB wm gp 3 (setsV PL) ∧ BB ≤ wm.heap.size ∧ Below w.heap.size w wm) (fun _ vi _ => k - (intOf vi).toNat)
      case atStart => exact ⟨0, _, _, Nat.zero_le _, rfl, rfl, hr0, hB4, hBp, hBW, hb0⟩
      case round =>
        clear hr0 hb0 hB4 hBp hBW
        obtain ⟨i, ro, rc, hi, rfl, rfl, hrow, hB4, hBp, hBw, hb⟩ := hrel
        by_cases hik : i < k
        · have hlt := HBK2.out i hik
          have hpa := HPA2.out _ hlt
          have hta := HTA.out i hik
          have k1 := (hB4.cell i).trans (setsV_at (S := B) (by rw [HL2.out]; exact hik))
          have k2 := (hBp.cell (B.getD i 0)).trans (setsV_at (S := PL) (by rw [hlp]; exact hlt))
          rw [hpa] at k2
          have hki : (i : Int) < (k : Int) := by omega
          have hlti : ((B.getD i 0 : Nat) : Int) < (k : Int) := by omega
          have hTl : (T.take i).length = i := by rw [List.length_take, HTL.out]; omega
          have HSU := Lib.hid (ints_push T i (by rw [HTL.out]; exact hik))
          rw [hta] at HSU
          clear hta hpa
          generalize placeN q k (B.getD i 0) = z at *
          generalize B.getD i 0 = y at *
          have hb1' : (T.take i).length + 1 ≤ maxLen := by unfold maxLen; omega
          have hb2' : ((T.take i).length + 1) * 8 ≤ 140737488355328 := by omega
          have HTLI := Lib.hid hTl
          clear hTl
          generalize T.take i = L at *
          have hlo := owns_lt hrow
          go_wp2_with (at_builtin; refine wpList_push _ rfl (.tmp 36) (.tmp 44) 29 rfl BB 3 im (.int .i64 0) 8 Try.underlying29 hmi hmz hm1 hm2 rfl ro L.length rc _ rfl (hrow.alloc _) _ _ _ rfl (cell_new _ _ _) rfl hb1' hb2' (by simp; omega) ?_; intro ro2 rc2 w4 hrow2 hg2 hnew2)
          have hlen : (T.take (i + 1)).length = L.length + 1 := by rw [HSU.out, List.length_append]; rfl
          have HLN := Lib.hid hlen
          clear hlen
          have hg4k := kept_own (hB4.alloc (.cells #[.int .i64 (z : Nat)] 3)) hg2 (fun a ha => by have := (hlo a ha).1; omega)
          have hgpk := kept_own (hBp.alloc (.cells #[.int .i64 (z : Nat)] 3)) hg2 (fun a ha => by have := (hlo a ha).1; omega)
          have hsz := hg2.size
          simp only [World.size_alloc] at hsz
          go_roundw
          case rel => exact ⟨i + 1, ro2, rc2, by omega, by go_num, by rw [HLN.out], by rw [HLN.out, HSU.out, List.map_append]; exact hrow2, hg4k, hgpk, by omega, below_push hb hb.size hg2 (fun a ha => by have := (hlo a ha).1; omega)⟩
          case measure => simp [intOf]; omega
        · obtain rfl : i = k := by omega
          rw [List.take_of_length_le (by rw [HTL.out]; exact Nat.le_refl _)] at hrow
          rw [List.take_of_length_le (by rw [HTL.out]; exact Nat.le_refl _)]
          go_wp2
          go_ret
          exact ⟨ro, rc, rfl, ownsRow_base hrow (by omega), hb⟩
theorem permL_no {p : List ByteArray} (h : plainB p = false) : permL p = [] := List.eq_nil_of_length_eq_zero (by rw [permL_len, oR_no h])
theorem specOrderPerm_any (ao : Option Addr) (cap : Nat) (p : List ByteArray) (w : World) (hl : p.length ≤ 1048576) (hs : ∀ s ∈ p, s.size ≤ 1048576) (hc : CellsAt w ao (p.map Value.string)) :
    Calls Try.prog 28 #[.slice ao p.length cap] w fun e w' => NumsRet w.heap.size (intsL (permL p)) (plainB p) e w' ∧ Below w.heap.size w w' := by
  have HP := Lib.hid (fun w hc => l5Plain_any ao cap p w hl hs hc)
  cases hpl : plainB p
  · rw [hpl] at HP
    rw [permL_no hpl]
    go_enter Try.func28, Try.ntmps28
    go_wp2_with (go_at_call 38; refine (HP.out _ hc).mono ?_; rintro e w1 ⟨rfl, hb1⟩)
    refine bodyPost_ret (v := .tuple #[.slice (some ⟨w1.heap.size, 0, none⟩) 0 0, .bool false]) (by simp [results, Try.results28, go_sem]) rfl ⟨⟨_, _, rfl, ownsRow_base (nums_none w1) hb1.size⟩, below_step hb1 hb1.size (below_alloc _ _)⟩
  · have HS := Lib.hid (fun w hc => l5Perm_any ao cap p w hl hs hpl hc)
    rw [hpl] at HP
    generalize intsL (permL p) = T at *
    go_enter Try.func28, Try.ntmps28
    go_wp2_with (first
      | (go_at_call 38; refine (HP.out _ hc).mono ?_; rintro e w1 ⟨rfl, hb1⟩; have hc1 := hc.below hb1)
      | (go_at_call 44; refine (HS.out _ hc1).mono ?_; rintro e w2 ⟨ro, rc, rfl, ho, hb2⟩))
    refine bodyPost_ret (v := .tuple #[.slice ro T.length rc, .bool true]) (by simp [results, Try.results28, go_sem]) rfl ⟨⟨ro, rc, rfl, ownsRow_base ho hb1.size⟩, below_step hb1 hb1.size hb2⟩
end Go.Proofs.Yteallnkaapdifaa
