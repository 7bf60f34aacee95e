/-
  A region that draws its order, whose first operations leave the world in a class, whose last of these is awaited by all that follow. The last operations are walked in each order that they may come in.
-/
import Derived.StillTail
import Derived.Lib.QuietBelow

namespace Go.Proofs.Ytpgcpmfemcfoaaa

section
variable {P : Program} {ops : Array Oper} {md : Region.Mode} {C : World → Prop}

/-- each operation ahead of the neck is awaited by a later one up to the neck -/
def sinkN (md : Region.Mode) (ops : Array Oper) (n : Nat) : Bool :=
  (List.range n).all fun i => (List.range (n + 1)).any fun j => decide (i < j) && Region.waitsFor md ops j i
/-- each operation behind the neck 'n' waits for the neck or for one behind it -/
def chainN (md : Region.Mode) (ops : Array Oper) (n : Nat) : Bool :=
  (List.range ops.size).all fun t => decide (t ≤ n) || (List.range t).any fun s => decide (n ≤ s) && Region.waitsFor md ops t s

theorem neck_waits {n : Nat} {listed : Array Bool} (hs : sinkN md ops n = true) (hc : chainN md ops n = true) (hn : n < ops.size) (inv : HeadInv md ops (n + 1) listed) {i : Nat} (hin : i ≤ n) (hun : listed.getD i true = false) :
    ∀ t, n < t → t ∉ Region.ready md ops listed := by
  have neck : ∀ (d i : Nat), n - i = d → i ≤ n → listed.getD i false = false → listed.getD n false = false := by
    intro d
    induction d using Nat.strongRecOn with
    | _ d ih =>
      intro i hd hi hu
      by_cases hin : i = n
      · subst hin; exact hu
      · have h1 := List.all_eq_true.1 hs i (List.mem_range.2 (by omega))
        obtain ⟨j, hj, hj2⟩ := List.any_eq_true.1 h1
        simp only [Bool.and_eq_true, decide_eq_true_eq] at hj2
        obtain ⟨oj, hoj, e, he, hb, hon⟩ := Region.waitsFor_spec hj2.2
        have hjle : j ≤ n := by have := List.mem_range.1 hj; omega
        cases hl : listed.getD j false with
        | true =>
          have h2 := inv.closed j oj hoj hl e he hb
          rw [hon, hu] at h2
          cases h2
        | false => exact ih (n - j) (by omega) j rfl hjle hl
  have hN := neck (n - i) i rfl hin (getD_both hun)
  intro t ht hr
  obtain ⟨_, ot, hot, hall⟩ := mem_ready.1 hr
  have htlt : t < ops.size := (Array.getElem?_eq_some_iff.1 hot).1
  have h1 := List.all_eq_true.1 hc t (List.mem_range.2 htlt)
  simp only [Bool.or_eq_true, decide_eq_true_eq] at h1
  rcases h1 with h1 | h1
  · omega
  · obtain ⟨s, hs, hs2⟩ := List.any_eq_true.1 h1
    simp only [Bool.and_eq_true, decide_eq_true_eq] at hs2
    obtain ⟨o', ho', e, he, hb, hon⟩ := Region.waitsFor_spec hs2.2
    have : o' = ot := Option.some.inj (ho'.symm.trans hot)
    subst this
    have h2 := hall e he hb
    rw [hon] at h2
    rcases Nat.eq_or_lt_of_le hs2.1 with h3 | h3
    · subst h3; rw [hN] at h2; cases h2
    · have hss : s < ops.size := by have := List.mem_range.1 hs; omega
      rw [getD_both (inv.tail s (by omega) hss)] at h2
      cases h2

/-- Whatever order the head's operations come in; then L. -/
def wpAnyH (P : Program) (md : Region.Mode) (ops : Array Oper) (C : World → Prop) (n : Nat) (L : Array Bool → Act → Prop) : Nat → Array Bool → Act → Prop
  | 0, listed, a => L listed a
  | f + 1, listed, a =>
    Region.ready md ops listed ≠ [] ∧ ∀ i ∈ Region.ready md ops listed, i ≤ n ∧ qOp P ops C i (wpAnyH P md ops C n L f (listed.setIfInBounds i true)) a

theorem wpAny_of_neck {n g : Nat} {L : Array Bool → Act → Prop} {Q' : Exit → Act → World → Prop} (hL : ∀ listed a w, C w → L listed a → wpAny P md ops Q' g listed a w) :
    ∀ (f : Nat) (listed : Array Bool) (a : Act) (w : World), C w → wpAnyH P md ops C n L f listed a → wpAny P md ops Q' (f + g) listed a w
  | 0, listed, a, w, hw, h => by rw [Nat.zero_add]; exact hL _ _ _ hw h
  | f + 1, listed, a, w, hw, h => by
    rw [show f + 1 + g = (f + g) + 1 by omega]
    exact ⟨fun h0 => absurd h0 h.1, fun i hi => wpOp_of_qOp hw (fun a' w' hw' h' => wpAny_of_neck hL f _ a' w' hw' h') (h.2 i hi).2⟩

theorem wpAnyH_first {n i : Nat} {oi : Oper} {v : Value} {L : Array Bool → Act → Prop} (hi : ops[i]? = some oi) (hsel : ∀ (j : Nat) (o : Oper) cs b, ops[j]? = some o → o.op ≠ .select cs b)
    (hs : sinkN md ops n = true) (hc : chainN md ops n = true) (hn : n < ops.size) (hin : i ≤ n)
    (hdone : ∀ listed a, L listed a → ∀ j ∈ Region.ready md ops listed, n < j) :
    ∀ (f : Nat) (listed : Array Bool) (a : Act), HeadInv md ops (n + 1) listed →
      (∀ j oj, ops[j]? = some oj → j ≠ i → listed.getD j true = false → (∀ e ∈ oj.after, Region.binds md e = true → e.on ≠ i) → oi.apart ops oj = true) →
      i ∈ Region.ready md ops listed → YieldsIn P ops C oi v a →
      wpAnyH P md ops C n L f (listed.setIfInBounds i true) (a.put oi.dst v) → wpAnyH P md ops C n L (f + 1) listed a := by
  intro f
  induction f with
  | zero =>
    intro listed a inv _ hr hy H
    have hun := (mem_ready.1 hr).1
    refine ⟨fun h => (by rw [h] at hr; cases hr), fun j hj => ?_⟩
    have hjn : j ≤ n := by
      rcases Nat.lt_or_ge n j with h | h
      · exact absurd hj (neck_waits hs hc hn inv hin hun j h)
      · exact h
    refine ⟨hjn, ?_⟩
    by_cases hji : j = i
    · subst hji; exact hy.qOp hi H
    · have := hdone _ _ H j (ready_mono hj hji)
      omega
  | succ f ih =>
    intro listed a inv hfree hr hy H
    have hun := (mem_ready.1 hr).1
    refine ⟨fun h => (by rw [h] at hr; cases hr), fun j hj => ?_⟩
    have hjn : j ≤ n := by
      rcases Nat.lt_or_ge n j with h | h
      · exact absurd hj (neck_waits hs hc hn inv hin hun j h)
      · exact h
    refine ⟨hjn, ?_⟩
    by_cases hji : j = i
    · subst hji; exact hy.qOp hi H
    · have h1 := (H.2 j (ready_mono hj hji)).2
      obtain ⟨hjun, oj, hoj, hall⟩ := mem_ready.1 hj
      have hnot : ∀ e ∈ oj.after, Region.binds md e = true → e.on ≠ i := fun e he hb heq => by
        have h1 := hall e he hb
        rw [heq, getD_both hun] at h1
        cases h1
      have h2 := qOp_put hoj (hfree j oj hoj hji hjun hnot) (fun cs b => hsel i oi cs b hi) (fun cs b => hsel j oj cs b hoj) hy h1
      have hfree' : ∀ k ok, ops[k]? = some ok → k ≠ i → (listed.setIfInBounds j true).getD k true = false →
          (∀ e ∈ ok.after, Region.binds md e = true → e.on ≠ i) → oi.apart ops ok = true := fun k ok hk hki hun hno => by
        refine hfree k ok hk hki ?_ hno
        by_cases hjk : j = k
        · subst hjk; exact hjun
        · rw [getD_set_ne true hjk] at hun; exact hun
      refine qOp_mono (fun a' h3 => ih (listed.setIfInBounds j true) a' (inv.set hj (by omega)) hfree' (ready_mono hr (Ne.symm hji)) h3.1 ?_) h2
      rw [Array.setIfInBounds_comm _ _ hji]
      exact h3.2

/-- the head's operations in the order of the text; behind them the list of what has come is 'lit' -/
def lexN (md : Region.Mode) (ops : Array Oper) (lit : Array Bool) (n : Nat) : Nat → Nat → Array Bool → Bool
  | 0, _, listed => listed == lit && (Region.ready md ops listed).all fun j => decide (n < j)
  | f + 1, k, listed => (Region.ready md ops listed).contains k && Region.free md ops listed k && lexN md ops lit n f (k + 1) (listed.setIfInBounds k true)

theorem wpAnyH_lex {n : Nat} {lit : Array Bool} {Lq : Act → Prop} (hsel : Region.noSelect ops = true) (hs : sinkN md ops n = true) (hc : chainN md ops n = true) (hn : n < ops.size) :
    ∀ (l : List Oper) (k : Nat) (listed : Array Bool) (a : Act), (∀ j, j < l.length → l[j]? = ops[k + j]?) → k + l.length = n + 1 → HeadInv md ops (n + 1) listed →
    lexN md ops lit n l.length k listed = true → wpQuiet P ops C Lq l a →
    wpAnyH P md ops C n (fun listed' a' => (listed' = lit ∧ ∀ j ∈ Region.ready md ops listed', n < j) ∧ Lq a') l.length listed a
  | [], k, listed, a, _, _, _, hB, h => by
    simp only [List.length_nil, lexN, Bool.and_eq_true, beq_iff_eq, List.all_eq_true, decide_eq_true_eq] at hB
    exact ⟨hB, h⟩
  | o :: l, k, listed, a, hl, hk, inv, hB, h => by
    have h0 : ops[k]? = some o := by simpa using (hl 0 (by simp)).symm
    simp only [List.length_cons, lexN, Bool.and_eq_true] at hB
    obtain ⟨⟨hr, hf⟩, hB'⟩ := hB
    have hkn : k ≤ n := by simp only [List.length_cons] at hk; omega
    have hr' : k ∈ Region.ready md ops listed := by simpa using hr
    have hst : qOp P ops C k (wpQuiet P ops C Lq l) a := by unfold qOp; simp only [h0]; exact h
    obtain ⟨v, hy, hK⟩ := yieldsIn_of_qOp h0 hst
    exact wpAnyH_first h0 (Region.noSelect_spec hsel) hs hc hn hkn (fun listed' a' hL => hL.1.2) l.length listed a inv (Region.free_spec h0 hf) hr' hy
      (wpAnyH_lex hsel hs hc hn l (k + 1) _ _ (fun j hj => by have := hl (j + 1) (by simp; omega); simpa [Nat.add_assoc, Nat.add_comm 1 j] using this) (by simp only [List.length_cons] at hk; omega) (inv.set hr' (by omega)) hB' hK)

def neckB (md : Region.Mode) (ops : Array Oper) (n : Nat) (lit : Array Bool) : Bool :=
  Region.noSelect ops && decide (n < ops.size) && sinkN md ops n && chainN md ops n && lexN md ops lit n (n + 1) 0 (Array.replicate ops.size false)

theorem wp_region_neck {id : Nat} {Q : Exit → Act → World → Prop} {a : Act} {w : World} {l : List Oper} (n : Nat) (lit : Array Bool) (hm : P.follows .mixedOrders = true) (hB : neckB .any l.toArray n lit = true) (hC : C { w with drawn := w.drawn + 1 })
    (h : wpQuiet P l.toArray C (fun a' => ∀ w', C w' → wpAny P .any l.toArray Q (l.length - (n + 1)) lit a' w') (l.take (n + 1)) a) : (Code.region id l.toArray true).wp P Q a w := by
  simp only [neckB, Bool.and_eq_true, decide_eq_true_eq] at hB
  obtain ⟨⟨⟨⟨hsel, hn⟩, hs⟩, hc⟩, hlex⟩ := hB
  have hn' : n < l.length := by simpa using hn
  have htl : (l.take (n + 1)).length = n + 1 := by simp; omega
  have inv0 : HeadInv .any l.toArray (n + 1) (Array.replicate l.toArray.size false) :=
    ⟨by simp, fun j oj _ hl => (by rw [getD_replicate_false] at hl; cases hl), fun t _ ht => getD_in (by simpa using ht) (getD_replicate_false _ _)⟩
  have H := wpAnyH_lex (md := .any) (C := C) (lit := lit) hsel hs hc hn (l.take (n + 1)) 0 _ a (fun j hj => by
    have hj' : j < n + 1 := by rw [htl] at hj; exact hj
    simp [hj']) (by rw [htl]; omega) inv0 (by rw [htl]; exact hlex) h
  refine wp_region_any hm ?_
  have := wpAny_of_neck (Q' := Q) (g := l.length - (n + 1)) (fun listed a' w' hw' hL => by
    obtain ⟨⟨e, _⟩, h2⟩ := hL
    rw [e]
    exact h2 w' hw') _ _ _ _ hC H
  rw [htl, show n + 1 + (l.length - (n + 1)) = l.toArray.size by simp; omega] at this
  exact this

/-- at the class 'w, some blocks laid' -/
theorem wp_region_neck_below {id : Nat} {Q : Exit → Act → World → Prop} {a : Act} {w : World} {l : List Oper} (n : Nat) (lit : Array Bool) (hm : P.follows .mixedOrders = true) (hB : neckB .any l.toArray n lit = true)
    (h : wpQuiet P l.toArray (fun w' => ∃ p : Regrown, w' = Sort.grow (redrawn w p.d) p.os) (fun a' => ∀ w', (∃ p : Regrown, w' = Sort.grow (redrawn w p.d) p.os) → wpAny P .any l.toArray Q (l.length - (n + 1)) lit a' w') (l.take (n + 1)) a) : (Code.region id l.toArray true).wp P Q a w :=
  wp_region_neck (C := fun w' => ∃ p : Regrown, w' = Sort.grow (redrawn w p.d) p.os) n lit hm hB ⟨⟨w.drawn + 1, #[]⟩, by rw [Sort.grow_empty]; rfl⟩ h

/-- the last operations, each of which waits for the one ahead of it, in the order of the text -/
theorem wpAny_tail {Q : Exit → Act → World → Prop} {l : List Oper} (k : Nat) {g : Nat} {listed : Array Bool} {a : Act} {w : World} (hg : g = l.length - k) (hB : Region.seqB md l.toArray (l.length - k) k listed = true)
    (h : wpList P l.toArray Q (l.drop k) a w) : wpAny P md l.toArray Q g listed a w := by
  subst hg
  have hl : (l.drop k).length = l.length - k := by simp
  rw [← hl]
  exact wpAny_of_seq (md := md) (l.drop k) k listed a w (fun j => by simp [List.getElem?_drop]) (by rw [hl]; exact hB) h

end
end Go.Proofs.Ytpgcpmfemcfoaaa
