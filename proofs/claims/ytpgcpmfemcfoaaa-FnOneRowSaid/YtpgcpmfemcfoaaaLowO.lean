/-
  A range over an iterator that writes memory of its own between two rounds: the loop's own state lies below, and the rounds touch nothing that the iterator lays. (For loops that are never left early.)
-/
import Derived.Test.YtpgcpmfemcfoaaaRowO
import Derived.RangeFuncNested
import Derived.RangeFuncBound
import Derived.RangeFuncCalls
import Derived.RangeFuncLeaves

namespace Go.Proofs.Ytpgcpmfemcfoaaa
open Go.RowKit

/-- whatever lay from a block on lies as it lay -/
def KeptFrom (B : Nat) (W W' : World) : Prop := W.heap.size ≤ W'.heap.size ∧ ∀ j, B ≤ j → j < W.heap.size → W'.heap[j]? = W.heap[j]?
theorem KeptFrom.refl (B : Nat) (W : World) : KeptFrom B W W := ⟨Nat.le_refl _, fun _ _ _ => rfl⟩
theorem KeptFrom.trans {B : Nat} {U V W : World} (h : KeptFrom B U V) (k : KeptFrom B V W) : KeptFrom B U W :=
  ⟨Nat.le_trans h.1 k.1, fun j hj hl => (k.2 j hj (Nat.lt_of_lt_of_le hl h.1)).trans (h.2 j hj hl)⟩
theorem KeptFrom.of_below {B : Nat} {W W' : World} (h : Below W.heap.size W W') : KeptFrom B W W' := ⟨h.size, fun j _ hl => h.block j hl⟩
theorem KeptFrom.obj {B : Nat} {U W W' : World} (h : KeptFrom B U W) {l : Nat} (hs : W'.heap.size = W.heap.size) (ho : ∀ j, j ≠ l → W'.heap[j]? = W.heap[j]?) (hl : l < B) : KeptFrom B U W' :=
  ⟨by rw [hs]; exact h.1, fun j hj hlt => (ho j (by omega)).trans (h.2 j hj hlt)⟩
theorem KeptFrom.cell {B : Nat} {U W : World} (h : KeptFrom B U W) (b k : Nat) (v : Value) (hb : b < B ∨ U.heap.size ≤ b) : KeptFrom B U (W.setCell ⟨b, k, none⟩ v) :=
  ⟨by rw [World.size_setCell]; exact h.1, fun j hj hlt => (Below.heap_setCell W ⟨b, k, none⟩ v j (fun e => by simp only at e; omega)).trans (h.2 j hj hlt)⟩
theorem putObj_size (W : World) (l : Nat) (o : Obj) : (W.putObj l o).heap.size = W.heap.size := by simp [World.putObj]
theorem below_obj {B l : Nat} (W : World) (o : Obj) (hl : B ≤ l) (hlt : l < W.heap.size) : Below B W (W.putObj l o) :=
  (Below.refl B W).grown (grownBy_putObj' W l o) (by omega) (fun k e => by cases e; exact hl)

variable {F : Fence} {n : Nat} {P : Program}
theorem rangeFunc_lowJ {α : Type} {g : Operand} {ps : Array Tmp} {assign body : Code} {Q : Exit → Act → World → Prop} {a : Act} {w : World}
    (hro : F.round = none) (h1 : 1 ≤ n) {gf : Nat} {lb : Array Value} (hg : a.eval g = .func (.func gf) #[] lb) (hFg : F.fn gf) (eg : ∀ args w, (callFunc gf args).run P w = .ok (.enter gf args) w)
    {encs : α → Array Value} (hps : ∀ x, (encs x).size = ps.size) (xs : List α)
    (I : List α → World → Prop) (hI : ∀ s U W, I s U → Below w.heap.size U W → I s W) (h0 : I [] w)
    (hcall : ∀ (l : Nat) (J : List α → World → Prop) (W1 : World), Below w.heap.size w W1 → (∀ s U W, J s U → Below W1.heap.size U W → J s W) → (∀ s W, J s W → I s W) →
      (∀ (m : Nat), 3 ≤ m → ∀ pre x rest W, xs = pre ++ x :: rest → W1.heap.size ≤ W.heap.size → J pre W → YieldAt F m P l (encs x) W fun e W' => e = .returned (.bool true) ∧ J (pre ++ [x]) W' ∧ KeptFrom W1.heap.size W W') →
      J [] W1 → CallsIn F (n - 1) P gf (#[.func (.yield l) #[] #[]] ++ lb) W1 fun e W' => (∃ v, e = .returned v) ∧ J xs W')
    (Ax : α → Act → World → Prop) (hAx : ∀ x a' W l o, Ax x a' W → w.heap.size ≤ l → l < W.heap.size → (∃ r, W.heap[l]? = some (.loop r)) → Ax x a' (W.putObj l o))
    (hassign : ∀ (m : Nat), 3 ≤ m → ∀ (l : Nat) (pre : List α) (x : α) (rest : List α) (W : World) (K : Act → World → Prop), xs = pre ++ x :: rest → I pre W → (∀ a' W', Below W.heap.size W W' → Ax x a' W' → K a' W') →
      assign.wpIn (F.inRound l) m P (Exit.then K (fun _ _ _ => False)) { tmps := (ps.zip (encs x)).foldl (fun t (p, v) => t.setIfInBounds p v) a.tmps, defers := [] } W)
    (hbody : ∀ (m : Nat), 3 ≤ m → ∀ (l : Nat) (pre : List α) (x : α) (rest : List α) (a' : Act) (W : World), xs = pre ++ x :: rest → I pre W → Ax x a' W → body.wpIn (F.inRound l) m P (fun e _ W' => e = .normal ∧ I (pre ++ [x]) W' ∧ KeptFrom w.heap.size W W') a' W)
    (hdone : ∀ (D : Nat) (W : World), w.heap.size ≤ D → I xs W → W.heap[D]? = some (.deferred (some [])) → Q .normal { a with defers := { target := .collected D, args := #[] } :: a.defers } W) :
    (Code.rangeFunc g ps assign body).wpIn F n P Q a w := by
  refine wpIn_rangeFunc ?_
  intro fn hfn
  rw [hro]
  obtain ⟨rec, hrec⟩ : ∃ rec : LoopState → Loop, rec = fun st => { state := st, pending := none, fn, tmps := a.tmps, params := ps, assign, body, defers := w.heap.size } := ⟨_, rfl⟩
  obtain ⟨W1, hW1⟩ : ∃ W1, (w.alloc (.deferred (some []))).alloc (.loop (rec .ready)) = W1 := ⟨_, rfl⟩
  have hsz : W1.heap.size = w.heap.size + 2 := by rw [← hW1]; simp
  have hL1 : W1.heap[w.heap.size + 1]? = some (.loop (rec .ready)) := by
    rw [← hW1]; have := World.alloc_heap_new (w.alloc (.deferred (some []))) (.loop (rec .ready)); rwa [World.size_alloc] at this
  have hK1 : W1.heap[w.heap.size]? = some (.deferred (some [])) := by
    rw [← hW1]; exact (Below.heap_alloc _ _ _ (by simp)).trans (World.alloc_heap_new w _)
  have hb1 : Below w.heap.size w W1 := by rw [← hW1]; exact ((Below.refl _ w).alloc (Nat.le_refl _) _).alloc (by simp) _
  refine ⟨w.heap.size + 1, [{ target := .collected w.heap.size, args := #[] }], W1, { target := .fn (.func gf) lb, args := #[.func (.yield (w.heap.size + 1)) #[] #[]] }, W1, gf,
    #[.func (.yield (w.heap.size + 1)) #[] #[]] ++ lb, W1, ?_, ?_, ?_, ?_, fun _ => h1, ?_⟩
  · rw [← hW1, hrec]; exact run_enterLoop_outer _ _ _ _ _
  · simp only [resolve, hg]
    simp [go_sem]
  · intro f' hf'; simp [Target.leads] at hf'; subst hf'; exact hFg
  · simp [invoke, go_sem, eg]
  · refine (hcall (w.heap.size + 1) (fun pre W => I pre W ∧ W.heap[w.heap.size + 1]? = some (.loop (rec .ready)) ∧ W.heap[w.heap.size]? = some (.deferred (some []))) W1 hb1
      (fun s U W hs hb => ⟨hI s U W hs.1 (hb.mono (by omega)), (hb.block _ (by omega)).trans hs.2.1, (hb.block _ (by omega)).trans hs.2.2⟩) (fun _ _ h => h.1) ?_ ⟨hI _ _ _ h0 hb1, hL1, hK1⟩).mono ?_
    · -- a round
      rintro m hm pre x rest W hx hsW ⟨hi, hl, hk⟩
      have hy := run_yield (P := P) (args := encs x) hl (by rw [hrec]; exact hps x)
      rw [hrec] at hy
      refine ⟨fn, _, assign, body, hy, roundIn_of_wpIn hfn (hassign m hm _ pre x rest W _ hx hi ?_)⟩
      clear hy
      intro a' Wa hba hax
      have hWl : w.heap.size + 1 < W.heap.size := by omega
      replace hl := (hba.block _ hWl).trans hl
      replace hk := (hba.block _ (Nat.lt_of_succ_lt hWl)).trans hk
      have hlt : w.heap.size + 1 < Wa.heap.size := by have := hba.size; omega
      refine ⟨_, run_beginRound hl (by rw [hrec]), ?_⟩
      have hl2 : (Wa.putObj (w.heap.size + 1) (.loop { rec .ready with state := .busy })).heap[w.heap.size + 1]? = some (.loop { rec .ready with state := .busy }) := World.putObj_heap_same hlt
      have hk2 : (Wa.putObj (w.heap.size + 1) (.loop { rec .ready with state := .busy })).heap[w.heap.size]? = some (.deferred (some [])) := (World.putObj_heap_other (by omega)).trans hk
      have hbo := below_obj (B := w.heap.size) Wa (.loop { rec .ready with state := .busy }) (Nat.le_succ _) hlt
      have hkf : KeptFrom W1.heap.size W (Wa.putObj (w.heap.size + 1) (.loop { rec .ready with state := .busy })) :=
        (KeptFrom.of_below hba).obj (l := w.heap.size + 1) (putObj_size _ _ _) (fun j hj => World.putObj_heap_other hj) (by omega)
      refine wpIn_mono (hbody m hm _ pre x rest a' _ hx (hI _ _ _ (hI _ _ _ hi (hba.mono (by omega))) hbo) (hAx x a' Wa _ _ hax (Nat.le_succ _) hlt ⟨_, hl⟩)) ?_
      rintro e a3 W3 ⟨rfl, hi3, hk3⟩
      have hs2 : w.heap.size + 1 < (Wa.putObj (w.heap.size + 1) (.loop { rec .ready with state := .busy })).heap.size := by rw [putObj_size]; exact hlt
      have hl3 := (hk3.2 _ (Nat.le_succ _) hs2).trans hl2
      have hk4 := (hk3.2 _ (Nat.le_refl _) (Nat.lt_of_succ_lt hs2)).trans hk2
      have hr := run_endRound (P := P) (jump := none) hl3
      have hlt3 : w.heap.size + 1 < W3.heap.size := Nat.lt_of_lt_of_le hs2 hk3.1
      rw [hrec] at hr hl3
      refine ⟨_, _, hr, rfl, ⟨hI _ _ _ hi3 (below_obj W3 _ (Nat.le_succ _) hlt3), ?_, (World.putObj_heap_other (by omega)).trans hk4⟩, ?_⟩
      · rw [hrec]; exact World.putObj_heap_same hlt3
      · exact (hkf.trans ⟨hk3.1, fun j hj hjl => hk3.2 j (by omega) hjl⟩).obj (l := w.heap.size + 1) (putObj_size _ _ _) (fun j hj => World.putObj_heap_other hj) (by omega)
    · -- behind the iterator
      rintro e W2 ⟨⟨v, rfl⟩, hi, hl, hk⟩
      have hlt : w.heap.size + 1 < W2.heap.size := (Array.getElem?_eq_some_iff.1 hl).1
      have hr := run_endLoop (P := P) hl (by rw [hrec]; simp)
      rw [hrec] at hr
      exact ⟨none, _, hr, hdone _ _ (Nat.le_refl _) (hI _ _ _ hi (below_obj W2 _ (Nat.le_succ _) hlt)) ((World.putObj_heap_other (by omega)).trans hk)⟩

theorem rangeFunc_low {α : Type} {g : Operand} {ps : Array Tmp} {assign body : Code} {Q : Exit → Act → World → Prop} {a : Act} {w : World}
    (hro : F.round = none) (h1 : 1 ≤ n) {gf : Nat} {lb : Array Value} (hg : a.eval g = .func (.func gf) #[] lb) (hFg : F.fn gf) (eg : ∀ args w, (callFunc gf args).run P w = .ok (.enter gf args) w)
    {encs : α → Array Value} (hps : ∀ x, (encs x).size = ps.size) (xs : List α)
    (I : List α → World → Prop) (hI : ∀ s U W, I s U → Below w.heap.size U W → I s W) (h0 : I [] w)
    (hcall : ∀ (l : Nat) (J : List α → World → Prop) (W1 : World), Below w.heap.size w W1 → (∀ s U W, J s U → Below W1.heap.size U W → J s W) →
      (∀ (m : Nat), 3 ≤ m → ∀ pre x rest W, xs = pre ++ x :: rest → W1.heap.size ≤ W.heap.size → J pre W → YieldAt F m P l (encs x) W fun e W' => e = .returned (.bool true) ∧ J (pre ++ [x]) W' ∧ KeptFrom W1.heap.size W W') →
      J [] W1 → CallsIn F (n - 1) P gf (#[.func (.yield l) #[] #[]] ++ lb) W1 fun e W' => (∃ v, e = .returned v) ∧ J xs W')
    (Ax : α → Act → World → Prop) (hAx : ∀ x a' W l o, Ax x a' W → w.heap.size ≤ l → l < W.heap.size → (∃ r, W.heap[l]? = some (.loop r)) → Ax x a' (W.putObj l o))
    (hassign : ∀ (m : Nat), 3 ≤ m → ∀ (l : Nat) (pre : List α) (x : α) (rest : List α) (W : World) (K : Act → World → Prop), xs = pre ++ x :: rest → I pre W → (∀ a' W', Below W.heap.size W W' → Ax x a' W' → K a' W') →
      assign.wpIn (F.inRound l) m P (Exit.then K (fun _ _ _ => False)) { tmps := (ps.zip (encs x)).foldl (fun t (p, v) => t.setIfInBounds p v) a.tmps, defers := [] } W)
    (hbody : ∀ (m : Nat), 3 ≤ m → ∀ (l : Nat) (pre : List α) (x : α) (rest : List α) (a' : Act) (W : World), xs = pre ++ x :: rest → I pre W → Ax x a' W → body.wpIn (F.inRound l) m P (fun e _ W' => e = .normal ∧ I (pre ++ [x]) W' ∧ KeptFrom w.heap.size W W') a' W)
    (hdone : ∀ (D : Nat) (W : World), w.heap.size ≤ D → I xs W → W.heap[D]? = some (.deferred (some [])) → Q .normal { a with defers := { target := .collected D, args := #[] } :: a.defers } W) :
    (Code.rangeFunc g ps assign body).wpIn F n P Q a w :=
  rangeFunc_lowJ hro h1 hg hFg eg hps xs I hI h0 (fun l J W1 hb hJ _ hY h => hcall l J W1 hb hJ hY h) Ax hAx hassign hbody hdone

theorem YieldAt.deep {F : Fence} (hd : F.depth = none) {m : Nat} (m' : Nat) {P : Program} {l : Nat} {args : Array Value} {W : World} {R : Ending → World → Prop} (h : YieldAt F m P l args W R) : YieldAt F m' P l args W R := by
  obtain ⟨fn, tmps, assign, body, hy, h1, h2⟩ := h
  refine ⟨fn, tmps, assign, body, hy, h1, fun c cs _ => h2 c cs ?_⟩
  unfold Fence.room
  rw [hd]
  intro d e
  cases e
end Go.Proofs.Ytpgcpmfemcfoaaa
