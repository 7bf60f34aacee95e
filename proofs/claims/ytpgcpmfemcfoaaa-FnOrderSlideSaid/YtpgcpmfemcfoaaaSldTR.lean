/-
  Plans of one permutation are as many when turned. (Mathematics.)
-/
import Derived.Test.YtpgcpmfemcfoaaaSldR
import Derived.Test.YtpgcpmfemcfoaaaSamOR

namespace Go.Proofs.Ytpgcpmfemcfoaaa
open Go.RowKit

theorem turn_is {p : List ByteArray} (h : planB p = true) : planB (namesB (turnB p)) = true ∧ (namesB (turnB p)).length = wideB p ∧ wideB (namesB (turnB p)) = p.length := by
  have x := (Is.self h).turn
  exact ⟨x.plan, x.len, x.wide⟩
/-- a list of all plans has just the plans of its size -/
theorem lst_mem {h wd : Nat} (d1 : 1 ≤ h) (d6 : h ≤ 6) (e1 : 1 ≤ wd) (e6 : wd ≤ 6) (h9 : h * wd ≤ 9) {q : List ByteArray} : q ∈ lstT h wd (allZ h wd) ↔ planB q = true ∧ q.length = h ∧ wideB q = wd := by
  unfold lstT
  rw [List.mem_map]
  constructor
  · rintro ⟨y, hy, rfl⟩
    have L := leaf d1 d6 e1 e6 h9 hy
    exact ⟨L.plan, L.len, L.wide⟩
  · rintro ⟨hp, rfl, rfl⟩
    obtain ⟨y, hy, e⟩ := allZ_mem hp
    exact ⟨y, hy, e⟩
theorem lst_turn {h wd : Nat} (d1 : 1 ≤ h) (d6 : h ≤ 6) (e1 : 1 ≤ wd) (e6 : wd ≤ 6) (h9 : h * wd ≤ 9) : (lstT wd h (allZ wd h)).Perm ((lstT h wd (allZ h wd)).map fun q => namesB (turnB q)) := by
  have h9' : wd * h ≤ 9 := by rw [Nat.mul_comm]; exact h9
  have hn := allZ_nodup d1 d6 e1 e6 h9
  rw [List.perm_ext_iff_of_nodup (allZ_nodup e1 e6 d1 d6 h9') ?_]
  · intro q
    rw [lst_mem e1 e6 d1 d6 h9', List.mem_map]
    constructor
    · rintro ⟨hq, l1, l2⟩
      obtain ⟨p1, a1, b1⟩ := turn_is hq
      obtain ⟨p2, a2, b2⟩ := turn_is p1
      obtain ⟨p3, a3, b3⟩ := turn_is p2
      exact ⟨_, (lst_mem d1 d6 e1 e6 h9).2 ⟨p3, by rw [a3, b2, a1, l2], by rw [b3, a2, b1, l1]⟩, turn_four hq⟩
    · rintro ⟨p, hp, rfl⟩
      obtain ⟨hpl, l1, l2⟩ := (lst_mem d1 d6 e1 e6 h9).1 hp
      obtain ⟨p1, a1, b1⟩ := turn_is hpl
      exact ⟨p1, by rw [a1, l2], by rw [b1, l1]⟩
  · unfold List.Nodup at hn ⊢
    rw [List.pairwise_map]
    refine hn.imp_of_mem fun {p q} hp hq hne e => hne ?_
    rw [← turn_four ((lst_mem d1 d6 e1 e6 h9).1 hp).1, ← turn_four ((lst_mem d1 d6 e1 e6 h9).1 hq).1, e]
theorem plain_turnB {p : List ByteArray} (h : planB p = true) : plainB (namesB (turnB p)) = plainB p := by
  rw [plain_is h, plain_is (turn_is h).1, cross_turn h]
theorem perm_turns_iff {p q : List ByteArray} (h : plainB p = true) (hq : plainB q = true) : permL (namesB (turnB p)) = permL (namesB (turnB q)) ↔ permL p = permL q := by
  refine ⟨fun e => ?_, perm_turns h hq⟩
  have h1 : plainB (namesB (turnB p)) = true := by rw [plain_turnB (plainB_plan h)]; exact h
  have k1 : plainB (namesB (turnB q)) = true := by rw [plain_turnB (plainB_plan hq)]; exact hq
  have h2 : plainB (namesB (turnB (namesB (turnB p)))) = true := by rw [plain_turnB (plainB_plan h1)]; exact h1
  have k2 : plainB (namesB (turnB (namesB (turnB q)))) = true := by rw [plain_turnB (plainB_plan k1)]; exact k1
  have h3 : plainB (namesB (turnB (namesB (turnB (namesB (turnB p)))))) = true := by rw [plain_turnB (plainB_plan h2)]; exact h2
  have k3 : plainB (namesB (turnB (namesB (turnB (namesB (turnB q)))))) = true := by rw [plain_turnB (plainB_plan k2)]; exact k2
  have := perm_turns h3 k3 (perm_turns h2 k2 (perm_turns h1 k1 e))
  rwa [turn_four (plainB_plan h), turn_four (plainB_plan hq)] at this
theorem intsL_iff {S T : List Nat} : intsL S = intsL T ↔ S = T := ⟨intsL_inj, fun e => by rw [e]⟩
/-- what the law of plans of one permutation asks -/
theorem slide_math {p : List ByteArray} (h : slideOk p = true) : planB p = true ∧ slideOk (namesB (turnB p)) = true ∧ slideN (namesB (turnB p)) = slideN p ∧ 1 ≤ slideN p ∧ slideN p ≤ 1000000 := by
  have h0 := h
  unfold slideOk at h
  rw [Bool.and_eq_true, decide_eq_true_eq] at h
  obtain ⟨hpl, h9⟩ := h
  have hp := plainB_plan hpl
  have g := (planP_of hp).grid
  obtain ⟨t1, t2, t3⟩ := turn_is hp
  have hq : plainB (namesB (turnB p)) = true := by rw [plain_turnB hp]; exact hpl
  have h9' : wideB p * p.length ≤ 9 := by rw [Nat.mul_comm]; exact h9
  have ho : slideOk (namesB (turnB p)) = true := by unfold slideOk; rw [hq, t2, t3, Bool.true_and, decide_eq_true_eq]; exact h9'
  refine ⟨hp, ho, ?_, ?_, ?_⟩
  · unfold slideN
    rw [if_pos h0, if_pos ho, t2, t3, cntZ_lst, cntZ_lst, (lst_turn g.h1 g.h6 g.w1 g.w6 h9).countP_eq, List.countP_map]
    refine List.countP_congr fun q hq' => ?_
    obtain ⟨a1, a2, a3⟩ := (lst_mem g.h1 g.h6 g.w1 g.w6 h9).1 hq'
    simp only [Function.comp_apply]
    unfold slideQ
    rw [plain_turnB a1]
    cases hqp : plainB q
    · rfl
    · rw [Bool.true_and, Bool.true_and, decide_eq_true_eq, decide_eq_true_eq, intsL_iff, intsL_iff]
      exact perm_turns_iff hqp hpl
  · unfold slideN
    rw [if_pos h0, cntZ_lst]
    refine List.countP_pos_iff.2 ⟨p, (lst_mem g.h1 g.h6 g.w1 g.w6 h9).2 ⟨hp, rfl, rfl⟩, ?_⟩
    unfold slideQ
    rw [hpl, Bool.true_and, decide_eq_true_eq]
  · unfold slideN
    rw [if_pos h0]
    exact Nat.le_trans (cntZ_le _ _ _ _) (allZ_few g.h6 g.w6 h9)
end Go.Proofs.Ytpgcpmfemcfoaaa
