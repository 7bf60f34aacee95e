
/-
  Rooms linked to their neighbours: what lies in memory, and one cell more. (Walks.)
-/
import Derived.Test.YtjcbfijliacicaaChamI
import Derived.OneCell
namespace Go.Proofs.Ytjcbfijliacicaa
open Go.RowKit

/-- some blocks are as they were -/
structure KeptK (K : Nat → Prop) (w w' : World) : Prop where
  os : w'.os = w.os
  tape : w'.tape = w.tape
  output : w'.output = w.output
  size : w.heap.size ≤ w'.heap.size
  block : ∀ k, K k → k < w.heap.size → w'.heap[k]? = w.heap[k]?
theorem KeptK.refl (K : Nat → Prop) (w : World) : KeptK K w w := ⟨rfl, rfl, rfl, Nat.le_refl _, fun _ _ _ => rfl⟩
theorem KeptK.trans {K : Nat → Prop} {a b c : World} (h : KeptK K a b) (k : KeptK K b c) : KeptK K a c :=
  ⟨k.os.trans h.os, k.tape.trans h.tape, k.output.trans h.output, Nat.le_trans h.size k.size, fun i hi hl => (k.block i hi (Nat.lt_of_lt_of_le hl h.size)).trans (h.block i hi hl)⟩
theorem KeptK.of_below {K : Nat → Prop} {w w' : World} (h : Below w.heap.size w w') : KeptK K w w' := ⟨h.os, h.tape, h.output, h.size, fun k _ hl => h.block k hl⟩
theorem KeptK.mono {K K' : Nat → Prop} {w w' : World} (h : KeptK K w w') (hk : ∀ k, K' k → K k) : KeptK K' w w' := ⟨h.os, h.tape, h.output, h.size, fun k hk' hl => h.block k (hk k hk') hl⟩
theorem KeptK.held {K : Nat → Prop} {w w' : World} (h : KeptK K w w') {B : Nat} {t : TypeId} {cs : Array Value} (hB : HeldB w B t cs) (hk : K B) : HeldB w' B t cs := (h.block B hk hB.lt).trans hB
theorem KeptK.cells {K : Nat → Prop} {w w' : World} (h : KeptK K w w') {ao : Option Addr} {xs : List Value} (hc : CellsAt w ao xs) (hk : ∀ a, ao = some a → K a.block) : CellsAt w' ao xs := fun i u hu => by
  obtain ⟨b, off, rfl, hc'⟩ := hc i u hu
  exact ⟨b, off, rfl, (World.cell?_of_block (a := ⟨b, off + i, none⟩) (h.block b (hk _ rfl) (World.block_lt_of_cell? _ _ hc'))).trans hc'⟩
theorem KeptK.below {K : Nat → Prop} {B : Nat} {w w' : World} (h : KeptK K w w') (hk : ∀ k, k < B → K k) (hB : B ≤ w.heap.size) : Below B w w' := ⟨h.os, h.tape, h.output, h.size, fun k hl => h.block k (hk k hl) (by omega)⟩

/-- a length one greater -/
def up2 (f : Nat → Nat → Nat) (a b : Nat) : Nat → Nat → Nat := fun r => if r = a then up1 (f a) b else f r
theorem up2_self (f : Nat → Nat → Nat) (a b : Nat) : up2 f a b a = up1 (f a) b := if_pos rfl
theorem up2_other (f : Nat → Nat → Nat) {a r : Nat} (b : Nat) (h : r ≠ a) : up2 f a b r = f r := if_neg h

/-- the cells of a room that is linked -/
def chaC (r : Nat) (so : Option Addr) (n c : Nat) : Array Value := #[.int .i64 (r : Nat), .slice so n c]
/-- rooms lie in memory one behind the other, each with its links in a row of its own, apart from other things -/
def ChB (w : World) (Q n : Nat) (f : Nat → Nat → Nat) (K : Nat → Prop) (so : Nat → Option Addr) (sc : Nat → Nat) : Prop :=
  (∀ r, r < n → HeldB w (Q + r) 90 (chaC r (so r) (lnk n (f r)).length (sc r))) ∧
  (∀ r, r < n → w.ownsRow (Q + n) 92 2 (.slice (so r) (lnk n (f r)).length (sc r)) (lnk n (f r)).length (lnkC Q (lnk n (f r)))) ∧
  (∀ r s, r < n → s < n → r ≠ s → Apart (so r) (so s)) ∧
  (∀ r, r < n → ∀ a, so r = some a → ¬ K a.block)

theorem ChB.step {w w' : World} {Q n : Nat} {f : Nat → Nat → Nat} {K K' : Nat → Prop} {so : Nat → Option Addr} {sc : Nat → Nat} (h : ChB w Q n f K so sc) (hb : Below w.heap.size w w') (hk : ∀ k, K' k → K k ∨ w.heap.size ≤ k) : ChB w' Q n f K' so sc :=
  ⟨fun r hr => (h.1 r hr).below hb, fun r hr => ownsRow_below (h.2.1 r hr) hb, h.2.2.1, fun r hr a ha hka => by
    rcases hk _ hka with h' | h'
    · exact h.2.2.2 r hr a ha h'
    · have := (owns_lt (h.2.1 r hr) a ha).2; omega⟩
theorem ChB.below {w w' : World} {Q n : Nat} {f : Nat → Nat → Nat} {K : Nat → Prop} {so : Nat → Option Addr} {sc : Nat → Nat} (h : ChB w Q n f K so sc) (hb : Below w.heap.size w w') : ChB w' Q n f K so sc := h.step hb fun _ h => .inl h
theorem ChB.rms {w : World} {Q n : Nat} {f : Nat → Nat → Nat} {K : Nat → Prop} {so : Nat → Option Addr} {sc : Nat → Nat} (h : ChB w Q n f K so sc) (a : Nat) : rms w Q (lnk n (f a)) := fun x hx => by
  rw [(h.1 x.1 (lnk_mem hx).1).cell 0]; rfl
theorem ChB.eq {w : World} {Q n : Nat} {f f' : Nat → Nat → Nat} {K : Nat → Prop} {so : Nat → Option Addr} {sc : Nat → Nat} (h : ChB w Q n f K so sc) (he : ∀ r, r < n → lnk n (f r) = lnk n (f' r)) : ChB w Q n f' K so sc :=
  ⟨fun r hr => by rw [← he r hr]; exact h.1 r hr, fun r hr => by rw [← he r hr]; exact h.2.1 r hr, h.2.2⟩

set_option maxRecDepth 100000 in
set_option maxHeartbeats 1000000 in
theorem find_any (Q n a b : Nat) (f : Nat → Nat → Nat) (K : Nat → Prop) (so : Nat → Option Addr) (sc : Nat → Nat) (w : World) (hn : n ≤ 9) (ha : a < n) (hb : b < n) (h : ChB w Q n f K so sc) :
    Calls Try.prog 82 #[.pointer (some ⟨Q + a, 0, none⟩), .int .i64 b] w
      fun e w' => e = .returned (.tuple #[.int .i64 (lnkAt b (f a) : Nat), .bool (decide (0 < f a b))]) ∧ Below w.heap.size w w' := by
  have hl := lnk_len n (f a)
  have c1 : w.cell? ⟨Q + a, 1, none⟩ = some (.slice (so a) (lnk n (f a)).length (sc a)) := (h.1 a ha).cell 1
  have hR : (decide (lnkAt b (f a) < (lnk n (f a)).length) && decide (((lnk n (f a)).getD (lnkAt b (f a)) (0, 0)).1 = b)) = decide (0 < f a b) := by
    by_cases hf : 0 < f a b
    · obtain ⟨h1, h2⟩ := lnk_there hb (f a) hf
      rw [h2]; simp [h1, hf]
    · rw [decide_eq_false hf]
      by_cases hlt : lnkAt b (f a) < (lnk n (f a)).length
      · have := lnk_not hb (f a) (by omega) (Nat.le_refl _) hlt
        rw [decide_eq_false (show ¬ ((lnk n (f a)).getD (lnkAt b (f a)) (0, 0)).1 = b by omega), Bool.and_false]
      · rw [decide_eq_false hlt, Bool.false_and]
  have HS := search_any Q (so a) (sc a) (lnk n (f a)) b (lnkAt b (f a)) w (by omega) (lnkAt_le hb (f a)) (fun j hj => lnk_ahead hb (f a) hj) (fun j h1 h2 => lnk_behind hb (f a) h1 h2) (ownsK_cells (h.2.1 a ha)) (h.rms a)
  rw [hR] at HS
  have HS := Lib.hid HS
  clear hR h
  generalize decide (0 < f a b) = R at *
  generalize lnkAt b (f a) = i at *
  generalize (lnk n (f a)).length = len at *
  generalize so a = sa at *
  generalize sc a = ca at *
  go_enter Try.func82, Try.ntmps82
  go_wp2_with (go_at_call 97; refine (HS.out).mono ?_; rintro e w1 ⟨rfl, hb1⟩)
  go_ret2
  exact ⟨rfl, hb1⟩

/-- what one room's links have become, and nothing else -/
theorem ChB.put {w w' : World} {Q n : Nat} {f : Nat → Nat → Nat} {K : Nat → Prop} {so : Nat → Option Addr} {sc : Nat → Nat} (h : ChB w Q n f K so sc) {a b : Nat} (ha : a < n) {ao' : Option Addr} {cap' : Nat}
    (hheld : HeldB w' (Q + a) 90 (chaC a ao' (lnk n (up1 (f a) b)).length cap'))
    (hrow : w'.ownsRow (Q + n) 92 2 (.slice ao' (lnk n (up1 (f a) b)).length cap') (lnk n (up1 (f a) b)).length (lnkC Q (lnk n (up1 (f a) b))))
    (hother : ∀ k, k < w.heap.size → k ≠ Q + a → (∀ x, so a = some x → k ≠ x.block) → w'.heap[k]? = w.heap[k]?) (hnew : NewOr w (so a) ao') (hKs : ∀ k, K k → k < w.heap.size) :
    ∃ so' sc', ChB w' Q n (up2 f a b) K so' sc' := by
  refine ⟨fun r => if r = a then ao' else so r, fun r => if r = a then cap' else sc r, fun r hr => ?_, fun r hr => ?_, fun r s hr hs hne => ?_, fun r hr x hx => ?_⟩
  · by_cases he : r = a
    · subst he; simp only [if_true, up2_self]; exact hheld
    · simp only [if_neg he, up2_other f b he]
      have h0 := h.1 r hr
      refine (hother _ h0.lt (by omega) fun x hx e => ?_).trans h0
      have := (owns_lt (h.2.1 a ha) x hx).1; omega
  · by_cases he : r = a
    · subst he; simp only [if_true, up2_self]; exact hrow
    · simp only [if_neg he, up2_other f b he]
      have h0 := h.2.1 r hr
      refine ⟨h0.1, ?_⟩
      rcases h0.2 with h1 | ⟨g, c, cur, hv, hbg, hgg, rest⟩
      · exact .inl h1
      · refine .inr ⟨g, c, cur, hv, hbg, ?_, rest⟩
        have hv' := hv
        simp only [Value.slice.injEq] at hv'
        refine (hother g (Array.getElem?_eq_some_iff.1 hgg).1 (by omega) fun x hx e => ?_).trans hgg
        exact h.2.2.1 r a hr ha he _ x hv'.1 hx e
  · by_cases h1 : r = a <;> by_cases h2 : s = a
    · omega
    · simp only [if_pos h1, if_neg h2]
      exact (h.2.2.1 a s ha hs (by omega)).push hnew (fun x hx => (owns_lt (h.2.1 s hs) x hx).2)
    · simp only [if_neg h1, if_pos h2]
      exact ((h.2.2.1 a r ha hr (by omega)).push hnew (fun x hx => (owns_lt (h.2.1 r hr) x hx).2)).symm
    · simp only [if_neg h1, if_neg h2]
      exact h.2.2.1 r s hr hs hne
  · intro hk
    by_cases he : r = a
    · simp only [if_pos he] at hx
      rcases hnew x hx with h1 | h1
      · exact h.2.2.2 a ha x h1 hk
      · have := hKs _ hk; omega
    · simp only [if_neg he] at hx
      exact h.2.2.2 r hr x hx hk

theorem row_some {w : World} {base : Nat} {e : TypeId} {size : Nat} {ao : Option Addr} {n cap : Nat} {xs : List Value} (h : w.ownsRow base e size (.slice ao n cap) n xs) (hn : 0 < n) : ∃ g, ao = some ⟨g, 0, none⟩ ∧ base ≤ g ∧ g < w.heap.size := by
  rcases h.2 with ⟨_, h0⟩ | ⟨g, c, cur, hv, hb, hg, _⟩
  · omega
  · simp only [Value.slice.injEq] at hv
    exact ⟨g, hv.1, hb, (Array.getElem?_eq_some_iff.1 hg).1⟩

theorem lnk_one (Q : Nat) (x : Nat × Nat) : ∀ v ∈ lnkC1 Q x, v.oneCell' = true := fun v hv => by
  simp only [lnkC1, List.mem_cons, List.not_mem_nil, or_false] at hv
  rcases hv with rfl | rfl <;> rfl

/-- a link put among a room's links, and what comes of it then -/
theorem touch_new (Q n a b : Nat) (f : Nat → Nat → Nat) (K : Nat → Prop) (so : Nat → Option Addr) (sc : Nat → Nat) (w1 : World) (hn : n ≤ 9) (ha : a < n) (hb : b < n) (hQ : Q + n ≤ w1.heap.size) (hf : f a b = 0) (h : ChB w1 Q n f K so sc)
    (hK : ∀ k, K k → k < Q ∨ Q + n ≤ k) (hKs : ∀ k, K k → k < w1.heap.size) :
    Calls Try.prog 107 #[.slice (so a) (lnk n (f a)).length (sc a), .int .i64 (lnkAt b (f a) : Nat), .slice (some ⟨w1.heap.size, 0, none⟩) 1 1] (w1.alloc (.cells #[.pointer (some ⟨Q + b, 0, none⟩), .int .i64 0] 92))
      fun e w3 => ∃ g c, e = .returned (.slice (some ⟨g, 0, none⟩) ((lnk n (f a)).length + 1) c) ∧ w3.cell? ⟨Q + a, 1, none⟩ = some (.slice (so a) (lnk n (f a)).length (sc a)) ∧ w3.frozen? ⟨Q + a, 1, none⟩ = false ∧
        (w3.setCell ⟨Q + a, 1, none⟩ (.slice (some ⟨g, 0, none⟩) ((lnk n (f a)).length + 1) c)).cell? ⟨Q + a, 1, none⟩ = some (.slice (some ⟨g, 0, none⟩) ((lnk n (f a)).length + 1) c) ∧
        (w3.setCell ⟨Q + a, 1, none⟩ (.slice (some ⟨g, 0, none⟩) ((lnk n (f a)).length + 1) c)).cell? ⟨g, lnkAt b (f a) * 2 + 1, none⟩ = some (.int .i64 0) ∧
        (w3.setCell ⟨Q + a, 1, none⟩ (.slice (some ⟨g, 0, none⟩) ((lnk n (f a)).length + 1) c)).frozen? ⟨g, lnkAt b (f a) * 2 + 1, none⟩ = false ∧
        (∃ so' sc', ChB ((w3.setCell ⟨Q + a, 1, none⟩ (.slice (some ⟨g, 0, none⟩) ((lnk n (f a)).length + 1) c)).setCell ⟨g, lnkAt b (f a) * 2 + 1, none⟩ (.int .i64 1)) Q n (up2 f a b) K so' sc') ∧
        KeptK K w1 ((w3.setCell ⟨Q + a, 1, none⟩ (.slice (some ⟨g, 0, none⟩) ((lnk n (f a)).length + 1) c)).setCell ⟨g, lnkAt b (f a) * 2 + 1, none⟩ (.int .i64 1)) := by
  have hle := lnkAt_le hb (f a)
  have hll := lnk_len n (f a)
  have hnew := lnk_new hb (f a) hf
  have hB2 := below_alloc w1 (.cells #[.pointer (some ⟨Q + b, 0, none⟩), .int .i64 0] 92)
  have hbl := HeldB.new w1 92 #[.pointer (some ⟨Q + b, 0, none⟩), .int .i64 0]
  have hrow := ownsRow_below (h.2.1 a ha) hB2
  have hlt := owns_lt (h.2.1 a ha)
  have hins := insert_any (Q + n) (so a) (lnk n (f a)).length (sc a) (lnkAt b (f a)) (lnkC Q (lnk n (f a))) (lnkC1 Q (b, 0)) w1.heap.size 1 _ 92 2 (by omega) hle (by rw [World.size_alloc]; omega) hrow (lnkC_one Q _)
    (fun x hx e => by have := (hlt x hx).2; omega) rfl (lnk_one Q _) (fun j v hv => by rw [Nat.zero_add, hbl.cell j, ← hv]; simp [lnkC1]) (by unfold World.shape?; rw [show (w1.alloc (.cells #[.pointer (some ⟨Q + b, 0, none⟩), .int .i64 0] 92)).heap[w1.heap.size]? = _ from hbl]; rfl) (hbl.frozen 0) (hbl.frozen 2)
  refine hins.mono ?_
  rintro e w3 ⟨ao', c, rfl, how, hgr, hno⟩
  obtain ⟨g, rfl, hg1, hg2⟩ := row_some how (by omega)
  have hHa : HeldB w3 (Q + a) 90 (chaC a (so a) (lnk n (f a)).length (sc a)) := kept_own ((h.1 a ha).below hB2) hgr (fun x hx e => by have := (hlt x hx).1; omega)
  have hys : (lnkC Q (lnk n (f a))).take (lnkAt b (f a) * 2) ++ lnkC1 Q (b, 0) ++ (lnkC Q (lnk n (f a))).drop (lnkAt b (f a) * 2) = lnkC Q ((lnk n (f a)).take (lnkAt b (f a)) ++ [(b, 0)] ++ (lnk n (f a)).drop (lnkAt b (f a))) := by
    rw [lnkC_append, lnkC_append, lnkC_take, lnkC_drop]; simp [lnkC]
  rw [hys] at how
  have hnl : ((lnk n (f a)).take (lnkAt b (f a)) ++ [(b, 0)] ++ (lnk n (f a)).drop (lnkAt b (f a))).length = (lnk n (f a)).length + 1 := by
    rw [List.length_append, List.length_append, List.length_take, List.length_drop]; simp only [List.length_singleton]; omega
  have hat : ((lnk n (f a)).take (lnkAt b (f a)) ++ [(b, 0)] ++ (lnk n (f a)).drop (lnkAt b (f a))).getD (lnkAt b (f a)) (0, 0) = (b, 0) := by
    rw [List.append_assoc, getD_appR _ (by rw [List.length_take]; omega), List.length_take, Nat.min_eq_left hle, Nat.sub_self]; rfl
  obtain ⟨M, hM⟩ : ∃ M, M = (lnk n (f a)).take (lnkAt b (f a)) ++ [(b, 0)] ++ (lnk n (f a)).drop (lnkAt b (f a)) := ⟨_, rfl⟩
  rw [← hM] at how hnl hat hnew
  obtain ⟨S, hS⟩ : ∃ S, S = Value.slice (some ⟨g, 0, none⟩) ((lnk n (f a)).length + 1) c := ⟨_, rfl⟩
  have hga : g ≠ Q + a := by omega
  have how4 : (w3.setCell ⟨Q + a, 1, none⟩ S).ownsRow (Q + n) 92 2 (.slice (some ⟨g, 0, none⟩) ((lnk n (f a)).length + 1) c) ((lnk n (f a)).length + 1) (lnkC Q M) := ownsRow_setCell_below how (by show Q + a < Q + n; omega) _
  have hH4 : HeldB (w3.setCell ⟨Q + a, 1, none⟩ S) (Q + a) 90 ((chaC a (so a) (lnk n (f a)).length (sc a)).setIfInBounds 1 S) := hHa.set 1 S
  have hst := how4.stored (lnkAt b (f a) * 2 + 1) (.int .i64 1)
  have hset := lnkC_set Q M (lnkAt b (f a)) b 0 1 (by omega) hat
  rw [show (.int .i64 1 : Value) = .int .i64 ((1 : Nat) : Int) from rfl, ← hset, ← hnew] at hst
  have hlen : (lnk n (f a)).length + 1 = (lnk n (up1 (f a) b)).length := by rw [hnew, List.length_set, hnl]
  have hH5 := hH4.other (a := ⟨g, lnkAt b (f a) * 2 + 1, none⟩) (by show Q + a ≠ g; omega) (.int .i64 1)
  have hoth : ∀ k, k < w1.heap.size → k ≠ Q + a → (∀ x, so a = some x → k ≠ x.block) → ((w3.setCell ⟨Q + a, 1, none⟩ S).setCell ⟨g, lnkAt b (f a) * 2 + 1, none⟩ (.int .i64 1)).heap[k]? = w1.heap[k]? := fun k hk h1 h2 => by
    have hkg : k ≠ g := fun e => by
      rcases hno _ rfl with h' | h'
      · exact h2 _ h' e
      · rw [World.size_alloc] at h'; have : w1.heap.size + 1 ≤ g := h'; omega
    rw [Below.heap_setCell _ _ _ _ hkg, Below.heap_setCell _ _ _ _ h1]
    refine (hgr.block k (by rw [World.size_alloc]; omega) (fun e => ?_)).trans (hB2.block k hk)
    cases hs : so a with
    | none => rw [hs] at e; simp [Value.ownBlock] at e
    | some x => rw [hs] at e; simp only [Value.ownBlock, Option.some.injEq] at e; exact h2 x hs e
  have hsz : w1.heap.size ≤ w3.heap.size := Nat.le_trans hB2.size hgr.size
  refine ⟨g, c, rfl, hHa.cell 1, hHa.frozen 1, ?_, ?_, by rw [← hS]; exact how4.frozenAt _, ?_, ?_⟩
  · rw [← hS, hH4.cell 1, hS]; rfl
  · rw [← hS, how4.cellAt _ (by omega), lnkC_at Q M _ 1 (by omega) (by omega), hat]; rfl
  · rw [← hS]
    refine h.put (b := b) ha (hH5.eq ?_) (by rw [← hlen]; exact hst.1) hoth (fun x hx => ?_) hKs
    · rw [← hlen, hS]; rfl
    · rcases hno x hx with h' | h'
      · exact .inl h'
      · rw [World.size_alloc] at h'; exact .inr (by omega)
  · rw [← hS]
    refine ⟨?_, ?_, ?_, ?_, fun k hk hkl => hoth k hkl (fun e => ?_) (fun x hx e => ?_)⟩
    · exact hgr.os
    · exact hgr.tape
    · exact hgr.output
    · simpa [World.setCell] using hsz
    · rcases hK k hk with h' | h' <;> omega
    · exact h.2.2.2 a ha x hx (by rw [← e]; exact hk)

theorem build_lnk (Q b : Nat) (w : World) : (Instr.buildSlice 88 1 #[(0, .agg #[.pointer (some ⟨Q + b, 0, none⟩), .int .i64 0])]).run Try.prog w = .ok (.slice (some ⟨w.heap.size, 0, none⟩) 1 1) (w.alloc (.cells #[.pointer (some ⟨Q + b, 0, none⟩), .int .i64 0] 92)) := by
  obtain ⟨iw, hwi, hwz, hw1, hw2⟩ := info_parts Try.infoLnk
  exact run_buildSlice w _ _ 1 _ #[.pointer (some ⟨Q + b, 0, none⟩), .int .i64 0] iw _ Try.underlying88 hwi hwz (by rw [hw1]; decide) (by rw [hw1]; decide) (by rw [hw1]; kernel_rfl)

set_option maxRecDepth 100000 in
set_option maxHeartbeats 4000000 in
theorem touch_any (Q n a b : Nat) (f : Nat → Nat → Nat) (K : Nat → Prop) (so : Nat → Option Addr) (sc : Nat → Nat) (w : World) (hn : n ≤ 9) (ha : a < n) (hb : b < n) (hQ : Q + n ≤ w.heap.size) (hf : f a b ≤ 1000) (h : ChB w Q n f K so sc)
    (hK : ∀ k, K k → k < Q ∨ Q + n ≤ k) (hKs : ∀ k, K k → k < w.heap.size) :
    Calls Try.prog 96 #[.pointer (some ⟨Q + a, 0, none⟩), .pointer (some ⟨Q + b, 0, none⟩)] w
      fun e w' => e = .returned (.tuple #[]) ∧ (∃ so' sc', ChB w' Q n (up2 f a b) K so' sc') ∧ KeptK K w w' := by
  have cb : w.cell? ⟨Q + b, 0, none⟩ = some (.int .i64 (b : Nat)) := (h.1 b hb).cell 0
  have HFI := Lib.hid (find_any Q n a b f K so sc w hn ha hb h)
  have hle := lnkAt_le hb (f a)
  have hll := lnk_len n (f a)
  by_cases hpos : 0 < f a b
  · obtain ⟨h1, h2⟩ := lnk_there hb (f a) hpos
    have hmore := lnk_more hb (f a) hpos
    rw [decide_eq_true hpos] at HFI
    have HP := Lib.hid (fun (w' : World) (hw : Below w.heap.size w w') => h.below hw)
    have hrow0 := h.2.1 a ha
    obtain ⟨g, hso, hg1, hg2⟩ := row_some hrow0 (by omega)
    have HPUT := Lib.hid (fun (w1 : World) (hw : Below w.heap.size w w1) => by
      have hs := lnkC_set Q (lnk n (f a)) (lnkAt b (f a)) b (f a b) (f a b + 1) h1 h2
      have hA := (h.below hw)
      have hr := hA.2.1 a ha
      rw [hso] at hr
      have hst := hr.stored (lnkAt b (f a) * 2 + 1) (.int .i64 (f a b + 1 : Nat))
      rw [← hs, ← hmore] at hst
      have hlen : (lnk n (f a)).length = (lnk n (up1 (f a) b)).length := by rw [hmore, List.length_set]
      have hheld := (hA.1 a ha).other (a := ⟨g, lnkAt b (f a) * 2 + 1, none⟩) (by show Q + a ≠ g; omega) (.int .i64 (f a b + 1 : Nat))
      rw [hlen] at hst hheld
      rw [hso] at hheld
      have hsz := hw.size
      have := hA.put (b := b) ha hheld hst.1 (fun k hk h3 h4 => by
        refine hst.2.block k hk (fun e => ?_)
        simp only [Option.some.injEq] at e
        exact h4 _ hso e) (fun x hx => .inl (by rw [hso]; exact hx)) (fun k hk => by have := hKs k hk; omega)
      have hkept : KeptK K w1 (w1.setCell ⟨g, lnkAt b (f a) * 2 + 1, none⟩ (.int .i64 (f a b + 1 : Nat))) := ⟨hst.2.os, hst.2.tape, hst.2.output, hst.2.size, fun k hk hkl => hst.2.block k hkl (fun e => by
        simp only [Option.some.injEq] at e
        exact h.2.2.2 a ha _ hso (by rw [← e]; exact hk))⟩
      exact And.intro this ((KeptK.of_below hw).trans hkept))
    have HCE := Lib.hid (fun (w1 : World) (hw : Below w.heap.size w w1) => by
      have hA := (h.below hw)
      have hr := hA.2.1 a ha
      rw [hso] at hr
      have e1 : w1.cell? ⟨g, lnkAt b (f a) * 2 + 1, none⟩ = some (.int .i64 (f a b : Nat)) := by
        rw [hr.cellAt _ (by omega), lnkC_at Q _ _ 1 h1 (by omega), h2]; rfl
      have e2 := hr.frozenAt (lnkAt b (f a) * 2 + 1)
      have e3 : w1.cell? ⟨Q + a, 1, none⟩ = some (.slice (some ⟨g, 0, none⟩) (lnk n (f a)).length (sc a)) := by rw [(hA.1 a ha).cell 1, ← hso]; rfl
      exact And.intro e1 (And.intro e2 e3))
    clear h hrow0 HP hmore h2 hso
    generalize up2 f a b = F2 at *
    generalize (lnk n (f a)).length = len at *
    generalize lnkAt b (f a) = i at *
    generalize f a b = m at *
    generalize sc a = ca at *
    have hil : (i : Int) < (len : Int) := by omega
    go_enter Try.func96, Try.ntmps96
    go_wp2_with (go_at_call 82; refine (HFI.out).mono ?_; rintro e w1 ⟨rfl, hb1⟩; obtain ⟨e1, e2, e3⟩ := HCE.out w1 hb1)
    have hfin := HPUT.out w1 hb1
    exact bodyPost_end (v := .tuple #[]) (by simp [results, Try.results96, go_sem]) rfl ⟨rfl, hfin⟩
  · have hz : f a b = 0 := by omega
    rw [decide_eq_false hpos] at HFI
    have HT := Lib.hid (fun (w1 : World) (hw : Below w.heap.size w w1) => touch_new Q n a b f K so sc w1 hn ha hb (by have := hw.size; omega) hz (h.below hw) hK (fun k hk => by have := hKs k hk; have := hw.size; omega))
    have HC1 := Lib.hid (fun (w1 : World) (hw : Below w.heap.size w w1) => show w1.cell? ⟨Q + a, 1, none⟩ = some (.slice (so a) (lnk n (f a)).length (sc a)) from ((h.below hw).1 a ha).cell 1)
    clear h hK hKs hz hpos hf
    generalize up2 f a b = F2 at *
    generalize (lnk n (f a)).length = len at *
    generalize lnkAt b (f a) = i at *
    generalize sc a = ca at *
    generalize so a = sa at *
    have hil : (i : Int) < (len : Int) + 1 := by omega
    have hil2 : i < len + 1 := by omega
    go_enter Try.func96, Try.ntmps96
    go_wp2_with (first
      | (go_at_call 82; refine (HFI.out).mono ?_; rintro e w1 ⟨rfl, hb1⟩; have e1 := HC1.out w1 hb1; have HT1 := Lib.hid (HT.out w1 hb1))
      | (go_at_call 107; refine (HT1.out).mono ?_; rintro e w3 ⟨g, c, rfl, f1, f2, f3, f4, f5, f6, f7⟩; have HF6 := Lib.hid f6; have HF7 := Lib.hid f7; clear f6 f7)
      | (refine wpList_build1 rfl 88 92 _ rfl _ rfl (build_lnk _ _ _) ?_))
    exact bodyPost_end (v := .tuple #[]) (by simp [results, Try.results96, go_sem]) rfl ⟨rfl, HF6.out, (KeptK.of_below hb1).trans HF7.out⟩

end Go.Proofs.Ytjcbfijliacicaa
