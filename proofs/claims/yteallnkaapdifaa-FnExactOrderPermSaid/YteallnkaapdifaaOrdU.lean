
/-
  The model's rooms led to in the end, and its answers about two rooms. (Walks.)
-/
import Derived.Test.YteallnkaapdifaaOrdT
import Derived.Test.YteallnkaapdifaaOrdI
namespace Go.Proofs.Yteallnkaapdifaa
open Go.RowKit

set_option maxRecDepth 100000 in
set_option maxHeartbeats 4000000 in
theorem l5All_any (ao : Option Addr) (cap : Nat) (p : List ByteArray) (kind : Nat) (w : World) (hl : p.length ≤ 1048576) (hs : ∀ s ∈ p, s.size ≤ 1048576) (hp : planB p = true) (hc : CellsAt w ao (p.map Value.string)) (hao : ∀ a, ao = some a → a.block < w.heap.size) :
    Calls Try.prog 35 #[.slice ao p.length cap, .int .i64 kind] w
      fun e w' => (∃ S, IsSets S (gridR p) (leadG p.length (wideB p) (gridR p) (gridG p) kind) ∧ SetsRet w.heap.size S e w') ∧ Below w.heap.size w w' := by
  have HJ := Lib.hid (l5Just_any ao cap p kind w hl hs hp hc hao)
  have HIN := Lib.hid (justG_in (h := p.length) (wd := wideB p) (r := gridR p) (g := gridG p) (fun i j hi hj => gridG_lt hi hj) kind)
  have hr9 := (planP_of hp).few
  unfold leadG
  generalize justG p.length (wideB p) (gridG p) kind = f at *
  generalize gridR p = r at *
  clear hl hs hc hao
  go_enter Try.func35, Try.ntmps35
  go_wp2_with (go_at_call 51; refine HJ.out.mono ?_; rintro e w1 ⟨⟨S, his, gb, hgb, rfl, hB⟩, hb1⟩)
  have his0 : IsSets S r (wars f 0) := his
  rw [his.len]
  clear his HJ
  go_loopw [6] (fun v wr => ∃ c : Nat, c ≤ r ∧ v = .int .i64 c ∧ ∃ S, IsSets S r (wars f c) ∧ HeldB wr gb 3 (setsV S) ∧ Below w.heap.size w wr) (fun v _ => r - (intOf v).toNat)
  case atStart => exact ⟨0, Nat.zero_le _, rfl, S, his0, hB, hb1⟩
  case round =>
    clear his0 hB hb1
    clear S
    obtain ⟨c, hc, rfl, S, his, hB, hb⟩ := hrel
    by_cases hcr : c < r
    · have his2 : IsSets S r (midF f c 0 0) := his.same (fun a b _ => (midF_zero f c a b).symm)
      clear his
      go_wp2
      go_loopw [7] (fun v wr => ∃ i : Nat, i ≤ r ∧ v = .int .i64 i ∧ ∃ S, IsSets S r (midF f c i 0) ∧ HeldB wr gb 3 (setsV S) ∧ Below w.heap.size w wr) (fun v _ => r - (intOf v).toNat)
      case atStart => exact ⟨0, Nat.zero_le _, rfl, S, his2, hB, hb⟩
      case round =>
        clear his2 hB hb
        clear S
        obtain ⟨i, hi, rfl, S, his, hB, hb⟩ := hrel
        by_cases hir : i < r
        · have hSl := his.len
          have k1 : wr.cell? ⟨gb, i, none⟩ = some (.int .i64 ((S.getD i 0 : Nat) : Int)) := (hB.cell i).trans (setsV_at (by omega))
          have k2 : wr.cell? ⟨gb, c, none⟩ = some (.int .i64 ((S.getD c 0 : Nat) : Int)) := (hB.cell c).trans (setsV_at (by omega))
          have f1 := hB.frozen i
          have hbit := bit_i64 (S.getD i 0) c (his.low i hir)
          rw [his.bit i c hir, midF_to] at hbit
          have hlow1 := his.low i hir
          have hlow2 := his.low c hcr
          have hOR := or_i64 (S.getD i 0) (S.getD c 0) (by omega) (by omega)
          have hjn := fun hw => IsSets.join (f' := midF f c (i + 1) 0) his hir hcr (fun a b => by
            by_cases hai : a = i
            · rw [if_pos hai, midF_from]
              subst hai
              unfold midF
              rw [if_pos (by omega), if_neg (by omega), wars_succ, show wars f c a c = true from hw, Bool.true_and]
            · rw [if_neg hai]
              unfold midF
              by_cases h1 : a < i ∨ a = i ∧ b < 0
              · rw [if_pos h1, if_pos (by omega)]
              · rw [if_neg h1, if_neg (by omega)])
          have hst := fun hw => his.same (f' := midF f c (i + 1) 0) (fun a b _ => by
            unfold midF
            by_cases h1 : a < i ∨ a = i ∧ b < 0
            · rw [if_pos h1, if_pos (by omega)]
            · rw [if_neg h1]
              by_cases hai : a = i
              · subst hai
                rw [if_pos (by omega), wars_succ, show wars f c a c = false from hw, Bool.false_and, Bool.or_false]
              · rw [if_neg (by omega)])
          have hput := fun m : Nat => (hB.set i (.int .i64 (m : Int))).eq (setsV_put S i m)
          have hbp := fun m : Nat => hb.setCell (p := ⟨gb, i, none⟩) hgb (.int .i64 (m : Int))
          have HJN := Lib.hid hjn; have HST := Lib.hid hst; have HPU := Lib.hid hput; have HBP := Lib.hid hbp
          clear hjn hst hput hbp
          obtain ⟨mm, hmm⟩ : ∃ mm, mm = S.getD i 0 ||| S.getD c 0 := ⟨_, rfl⟩
          rw [← hmm] at hOR HJN
          clear hmm hlow1 hlow2
          obtain ⟨m1, hm1⟩ : ∃ m1, m1 = S.getD i 0 := ⟨_, rfl⟩
          obtain ⟨m2, hm2⟩ : ∃ m2, m2 = S.getD c 0 := ⟨_, rfl⟩
          rw [← hm1] at k1 hbit hOR
          rw [← hm2] at k2 hOR
          have HOR := Lib.hid hOR
          clear hm1 hm2 hOR his
          have hiri : (i : Int) < (r : Int) := by omega
          have hcri : (c : Int) < (r : Int) := by omega
          cases hw : wars f c i c
          · rw [hw] at hbit
            have his2 := HST.out hw
            clear HST HJN
            go_wp2
            go_roundw
            case rel => exact ⟨i + 1, by omega, by go_num, S, his2, hB, hb⟩
            case measure => simp [intOf]; omega
          · rw [hw] at hbit
            have his2 := HJN.out hw
            have hB2 := HPU.out mm
            have hb2 := HBP.out mm
            clear HST HJN HPU HBP hB hb
            go_wp2
            go_region
            rw [HOR.out]
            go_wp2
            go_roundw
            case rel => exact ⟨i + 1, by omega, by go_num, _, his2, hB2.drew, hb2.drew⟩
            case measure => simp [intOf]; omega
        · obtain rfl : i = r := by omega
          have his2 : IsSets S i (wars f (c + 1)) := his.same (fun a b _ => midF_all HIN.out c a b)
          clear his
          go_wp2
          go_roundw
          case rel => exact ⟨c + 1, by omega, by go_num, S, his2, hB, hb⟩
          case measure => simp [intOf]; omega
    · obtain rfl : c = r := by omega
      have hSl := his.len
      go_wp2
      go_ret
      exact ⟨⟨S, his, gb, hgb, by rw [hSl]; rfl, hB⟩, hb⟩
end Go.Proofs.Yteallnkaapdifaa
