
/-
  The model counts permutations that are as asked. (Walks.)
-/
import Derived.Test.YtkpjlglfhhdcbaaCntM
import Derived.Test.YtkpjlglfhhdcbaaPermD
import Derived.Test.YtkpjlglfhhdcbaaSevN
import Derived.Test.YtkpjlglfhhdcbaaSevG
import Derived.Test.YtkpjlglfhhdcbaaSevH
import Derived.Test.YtkpjlglfhhdcbaaSevK
import Derived.Test.YtkpjlglfhhdcbaaSevY
namespace Go.Proofs.Ytkpjlglfhhdcbaa
open Go.WideShapes Go.RowKit

def askB (loose : Bool) (l : List Int) : Bool := if loose then looseB l else fairB l
theorem cells_le {W : World} {g : Nat} {l : List Int} (h : CellsAt W (some ⟨g, 0, none⟩) (l.map (Value.int .i64))) : ∀ j v, (l.map (Value.int .i64))[j]? = some v → W.cell? ((⟨g, 0, none⟩ : Addr).add j) = some v := fun j v hj => by
  obtain ⟨b, off, e, hc⟩ := h j v hj
  cases e
  rw [add_plain]; exact hc
theorem mem_take_succ {l : List Int} {i : Nat} {x : Int} (hi : i < l.length) : (x ∈ l.take (i + 1)) ↔ (x ∈ l.take i ∨ l.getD i 0 = x) := by
  rw [take_succ_getD l i 0 hi, List.mem_append, List.mem_singleton]
  constructor
  · rintro (h | h)
    · exact .inl h
    · exact .inr h.symm
  · rintro (h | h)
    · exact .inl h
    · exact .inr h.symm
set_option maxRecDepth 100000 in
set_option maxHeartbeats 8000000 in
theorem l6Count_any (n : Nat) (loose : Bool) : ∀ (k : Nat) (p : List Int) (g cap : Nat) (w : World), Beg n k p → p.length ≤ cap → CellsAt w (some ⟨g, 0, none⟩) (p.map (Value.int .i64)) →
    Calls Try.prog 53 #[.slice (some ⟨g, 0, none⟩) p.length cap, .int .i64 (n : Int), .bool loose] w fun e w' => e = .returned (.int .i64 ((cntK (askB loose) (permK n k p) : Nat) : Int)) ∧ Below w.heap.size w w'
  | 0, p, g, cap, w, hB, hcap, hc => by
    have hlen := hB.len
    have h7 : p.length ≤ 7 := by have := hB.n7; omega
    have HF := Lib.hid (fun w c => l6Fair_any (some ⟨g, 0, none⟩) cap p w h7 c)
    have HL := Lib.hid (fun w c => l6Loose_any (some ⟨g, 0, none⟩) cap p w h7 c)
    have hpe : ((p.length : Int) == (n : Int)) = true := by rw [beq_iff_eq]; omega
    have hres : cntK (askB loose) (permK n 0 p) = if askB loose p then 1 else 0 := by unfold cntK permK; rw [List.countP_singleton]
    rw [hres]
    clear hres
    have HLN := Lib.hid hlen; clear hlen
    cases loose
    · rw [show askB false p = fairB p from rfl]
      cases hr : fairB p
      · rw [hr] at HF
        clear hr
        go_enter Try.func53, Try.ntmps53
        go_wp2_with (go_at_call 42; refine (HF.out _ hc).mono ?_; rintro e w1 ⟨rfl, hb⟩)
        go_ret
        exact ⟨rfl, hb⟩
      · rw [hr] at HF
        clear hr
        go_enter Try.func53, Try.ntmps53
        go_wp2_with (go_at_call 42; refine (HF.out _ hc).mono ?_; rintro e w1 ⟨rfl, hb⟩)
        go_ret
        exact ⟨rfl, hb⟩
    · rw [show askB true p = looseB p from rfl]
      cases hr : looseB p
      · rw [hr] at HL
        clear hr
        go_enter Try.func53, Try.ntmps53
        go_wp2_with (go_at_call 44; refine (HL.out _ hc).mono ?_; rintro e w1 ⟨rfl, hb⟩)
        go_ret
        exact ⟨rfl, hb⟩
      · rw [hr] at HL
        clear hr
        go_enter Try.func53, Try.ntmps53
        go_wp2_with (go_at_call 44; refine (HL.out _ hc).mono ?_; rintro e w1 ⟨rfl, hb⟩)
        go_ret
        exact ⟨rfl, hb⟩
  | k + 1, p, g, cap, w, hB, hcap, hc => by
    have hlen := hB.len
    have hn7 := hB.n7
    have h7 : p.length < 7 := by omega
    have hpe : ((p.length : Int) == (n : Int)) = false := by rw [beq_eq_false_iff_ne]; omega
    have HIH := Lib.hid (l6Count_any n loose k)
    have HBG := Lib.hid hB
    have HPL := Lib.hid (fun m (hm : m ≤ n) => (show (permU n k p m).length ≤ 823543 from by
      obtain ⟨r, hr⟩ := permU_add n k p m (n - m)
      rw [show m + (n - m) = n by omega] at hr
      have h1 := permK_len n (k + 1) p
      rw [permK_succ, hr, List.length_append] at h1
      have h2 : n ^ (k + 1) ≤ 7 ^ 7 := Nat.le_trans (Nat.pow_le_pow_left hn7 (k + 1)) (Nat.pow_le_pow_right (by decide) (by omega))
      have h3 : (7 : Nat) ^ 7 = 823543 := by decide
      omega))
    generalize hP : p.length = P at *
    have HLP := Lib.hid hP; have HLN := Lib.hid hlen
    have HC := Lib.hid hc
    clear hlen hB hP hc
    go_enter Try.func53, Try.ntmps53
    go_wp2
    go_loopw [7, 8, 9, 10] (fun vc vx _ _ wr => ∃ (m : Nat), m ≤ n ∧ vx = .int .i64 m ∧ vc = .int .i64 ((cntK (askB loose) (permU n k p m) : Nat) : Int) ∧ Below w.heap.size w wr) (fun _ vx _ _ _ => n - (intOf vx).toNat)
    case atStart => exact ⟨0, Nat.zero_le _, rfl, rfl, Below.refl _ _⟩
    case round =>
      obtain ⟨m, hm, rfl, rfl, hb⟩ := hrel
      by_cases hlt : m < n
      · have HSK := Lib.hid (fun h => congrArg (cntK (askB loose)) (permU_skip (n := n) (k := k) (l := p) (m := m) h))
        have HST := Lib.hid (fun h => (congrArg (cntK (askB loose)) (permU_step (n := n) (k := k) (l := p) (m := m) h)).trans (cntK_add _ _ _))
        have hcl := Nat.le_trans (cntK_le (askB loose) (permU n k p m)) (HPL.out m hm)
        have hcl2 := fun h => Nat.le_trans (cntK_le (askB loose) (permU n k p (m + 1))) (HPL.out (m + 1) h)
        generalize hcc : cntK (askB loose) (permU n k p m) = c at *
        have HCC := Lib.hid hcc; clear hcc
        go_wp2
        go_loopw [9, 10] (fun vu vi wr => ∃ (i : Nat), i ≤ P ∧ vi = .int .i64 i ∧ vu = .bool (decide ((m : Int) ∈ p.take i)) ∧ Below w.heap.size w wr) (fun _ vi _ => P - (intOf vi).toNat)
        case atStart => exact ⟨0, Nat.zero_le _, rfl, by simp, hb⟩
        case round =>
          clear hb
          obtain ⟨i, hi, rfl, rfl, hb⟩ := hrel
          by_cases hlti : i < P
          · have hil : i < p.length := by rw [HLP.out]; exact hlti
            have HMT := Lib.hid (mem_take_succ (x := (m : Int)) hil)
            obtain ⟨b, off, e, hcell⟩ := (HC.out.below hb).int i hil
            cases e
            rw [Nat.zero_add] at hcell
            generalize p.getD i 0 = z at *
            have hIP : (i : Int) < (P : Int) := by omega
            cases hu : decide ((m : Int) ∈ p.take i)
            · by_cases hz : z = (m : Int)
              · have hzb : (z == (m : Int)) = true := by rw [beq_iff_eq]; exact hz
                have HD := Lib.hid (show true = decide ((m : Int) ∈ p.take (i + 1)) from (decide_eq_true (HMT.out.2 (.inr hz))).symm)
                clear hu hz
                go_wp2
                go_roundw
                case rel => exact ⟨i + 1, by omega, by go_num, congrArg Value.bool HD.out, hb⟩
                case measure => simp [intOf]; omega
              · have hzb : (z == (m : Int)) = false := by rw [beq_eq_false_iff_ne]; exact hz
                have HD := Lib.hid (show false = decide ((m : Int) ∈ p.take (i + 1)) from (decide_eq_false (fun h => (HMT.out.1 h).elim (of_decide_eq_false hu) hz)).symm)
                clear hu hz
                go_wp2
                go_roundw
                case rel => exact ⟨i + 1, by omega, by go_num, congrArg Value.bool HD.out, hb⟩
                case measure => simp [intOf]; omega
            · have HD := Lib.hid (show true = decide ((m : Int) ∈ p.take (i + 1)) from (decide_eq_true (HMT.out.2 (.inl (of_decide_eq_true hu)))).symm)
              clear hu
              go_wp2
              go_roundw
              case rel => exact ⟨i + 1, by omega, by go_num, congrArg Value.bool HD.out, hb⟩
              case measure => simp [intOf]; omega
          · obtain rfl : P = i := by omega
            rw [List.take_of_length_le (by rw [HLP.out]; exact Nat.le_refl _)]
            by_cases hmem : (m : Int) ∈ p
            · have HS := Lib.hid (HSK.out hmem)
              rw [decide_eq_true hmem]
              clear hmem hcl2
              go_wp2
              go_roundw
              case rel => exact ⟨m + 1, by omega, by go_num, by rw [HS.out], hb⟩
              case measure => simp [intOf]; omega
            · have hs := HST.out hmem
              have hcl3 := hcl2 (by omega)
              rw [hs] at hcl3
              have HS := Lib.hid hs
              have HIN := Lib.hid (fun gC cC w (hcap : P + 1 ≤ cC) (hc : CellsAt w (some ⟨gC, 0, none⟩) ((p ++ [(m : Int)]).map (Value.int .i64))) => HIH.out (p ++ [(m : Int)]) gC cC w (HBG.out.step hlt hmem) (by rw [List.length_append, HLP.out]; exact hcap) hc)
              rw [decide_eq_false hmem]
              clear hmem hcl2 hs
              generalize hDD : cntK (askB loose) (permK n k (p ++ [(m : Int)])) = D at *
              have HDD := Lib.hid hDD; clear hDD
              have hpl : (p ++ [(m : Int)]).length = P + 1 := by rw [List.length_append, HLP.out]; rfl
              rw [hpl] at HIN
              obtain ⟨it, hti, htz, ht1, ht2⟩ := info_parts info_numC
              have hba := below_alloc wr (.cells #[] 3)
              have hr0 := none_made wr
              have HCL := Lib.hid (cells_at ((HC.out.below hb).below hba))
              have HON := Lib.hid (ints_one p)
              have hwcd : wrap64 ((c : Int) + (D : Int)) = (c : Int) + (D : Int) := by unfold wrap64; omega
              have HCD := Lib.hid hwcd
              clear hpl hwcd
              have hm1 : P + 1 ≤ maxLen := by unfold maxLen; omega
              have hm2 : (P + 1) * 8 ≤ 140737488355328 := by omega
              go_wp2_with (first
                | (at_builtin; refine wpList_pushN _ rfl _ _ 22 rfl wr.heap.size 3 it (.int .i64 0) 8 Try.underlying22 hti htz ht1 ht2 rfl (some ⟨wr.heap.size, 0, none⟩) 0 0 _ rfl hr0 (p.map (Value.int .i64)) P P (Nat.zero_add _) g 0 cap rfl (by rw [List.length_map]; exact HLP.out) HCL.out HON.out (by unfold maxLen; omega) (by omega) (by simp) ?_; intro ro1 rc1 w2 hrow1 hg1; have hb1 : Below wr.heap.size wr w2 := hba.trans (below_of_grownBy hg1 (by simp) (fun k hk => by simp [Value.ownBlock] at hk; omega)); have hbs := hb1.size)
                | (at_builtin; refine wpList_push _ rfl _ _ 22 rfl wr.heap.size 3 it (.int .i64 0) 8 Try.underlying22 hti htz ht1 ht2 rfl ro1 P rc1 _ rfl (hrow1.alloc _) _ _ _ rfl (cell_new _ _ _) rfl hm1 hm2 (by simp; omega) ?_; intro ro2 rc2 w4 hrow2 hg2 hnew2))
              have hb4 := below_push hb1 hbs hg2 (fun a ha => (owns_lt hrow1 a ha).1)
              obtain ⟨g2, cp2, e2, _, _⟩ := ownsRow_some hrow2 (by omega)
              simp only [Value.slice.injEq, true_and] at e2
              obtain ⟨rfl, rfl⟩ := e2
              have c_Q := owns_cells hrow2
              have hCC := (d_cap hrow2).1
              clear hrow1 hrow2 hg1 hg2 hnew2 hba hr0
              refine (HIN.out _ _ _ hCC ?_).mono ?_
              · rw [List.map_append]; simpa using c_Q
              rintro e w5 ⟨rfl, hb5⟩
              have hbz := hb.trans ((below_step hb4 hb4.size hb5).mono hb.size)
              have hcd := HCD.out
              go_wp2
              go_roundw
              case rel => exact ⟨m + 1, by omega, by go_num, by rw [HS.out, Int.natCast_add]; exact congrArg (Value.int .i64) hcd, hbz⟩
              case measure => simp [intOf]; omega
      · obtain rfl : m = n := by omega
        go_wp2
        go_ret
        exact ⟨rfl, hb⟩

end Go.Proofs.Ytkpjlglfhhdcbaa
