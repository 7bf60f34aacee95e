/-
  Merged texts: WallM WallI RowK WallJ.
-/
import Derived.Test.YtpgcpmfemcfoaaaImplABQ
import Derived.Test.YtpgcpmfemcfoaaaRowQ
import Derived.Great.BuildSlice
import Derived.Laws.StructEq

/-
  Plain mathematics: the walls of a grid, as runs along its lines.
-/
namespace Go.Proofs.Ytpgcpmfemcfoaaa
open Go.RowKit

/-- where the run of cells that a line has ahead of one begins -/
def downTo (f : Nat → Bool) : Nat → Nat
  | 0 => 0
  | k + 1 => if f k = true then downTo f k else k + 1
/-- how long the run from a cell on is -/
def runFrom (f : Nat → Bool) (n s : Nat) : Nat := runLen (fun t => f (s + t)) (n - s)

theorem downTo_le (f : Nat → Bool) : ∀ k, downTo f k ≤ k
  | 0 => Nat.le_refl _
  | k + 1 => by
    unfold downTo; split
    · exact Nat.le_trans (downTo_le f k) (Nat.le_succ _)
    · exact Nat.le_refl _
theorem downTo_all (f : Nat → Bool) : ∀ k i, downTo f k ≤ i → i < k → f i = true
  | 0, i, _, h => by omega
  | k + 1, i, h1, h2 => by
    unfold downTo at h1
    split at h1
    · rename_i hk
      by_cases he : i = k
      · subst he; exact hk
      · exact downTo_all f k i h1 (by omega)
    · omega
theorem downTo_stop (f : Nat → Bool) : ∀ k, 0 < downTo f k → f (downTo f k - 1) = false
  | 0, h => by simp [downTo] at h
  | k + 1, h => by
    unfold downTo at h ⊢
    split
    · rename_i hk; rw [if_pos hk] at h; exact downTo_stop f k h
    · rename_i hk; simpa using hk
theorem downTo_eq {f : Nat → Bool} {k t : Nat} (h1 : t ≤ k) (h2 : ∀ i, t ≤ i → i < k → f i = true) (h3 : 0 < t → f (t - 1) = false) : downTo f k = t := by
  have a := downTo_le f k
  have b := downTo_all f k
  have c := downTo_stop f k
  rcases Nat.lt_trichotomy (downTo f k) t with h | h | h
  · have := b (t - 1) (by omega) (by omega); rw [h3 (by omega)] at this; cases this
  · exact h
  · have := h2 (downTo f k - 1) (by omega) (by omega); rw [c (by omega)] at this; cases this
theorem downTo_go {f : Nat → Bool} {k : Nat} (h : f k = true) : downTo f (k + 1) = downTo f k := by
  show (if f k = true then downTo f k else k + 1) = _; rw [if_pos h]
theorem downTo_no {f : Nat → Bool} {k : Nat} (h : f k = false) : downTo f (k + 1) = k + 1 := by
  show (if f k = true then downTo f k else k + 1) = _; rw [if_neg (by rw [h]; exact Bool.false_ne_true)]
theorem downTo_here {f : Nat → Bool} {k : Nat} (h : k = 0 ∨ f (k - 1) = false) : downTo f k = k := by
  rcases h with rfl | h
  · rfl
  · cases k with
    | zero => rfl
    | succ k => exact downTo_no h

theorem runFrom_le (f : Nat → Bool) (n s : Nat) : runFrom f n s ≤ n - s := runLen_le _ _
theorem runFrom_eq {f : Nat → Bool} {n s e : Nat} (h1 : s ≤ e) (h2 : e ≤ n) (h3 : ∀ i, s ≤ i → i < e → f i = true) (h4 : e < n → f e = false) : runFrom f n s = e - s :=
  runLen_eq _ _ _ (by omega) (fun i hi => h3 _ (by omega) (by omega)) (fun h => by rw [show s + (e - s) = e from by omega]; exact h4 (by omega))
theorem runFrom_all {f : Nat → Bool} {n s i : Nat} (h1 : s ≤ i) (h2 : i < s + runFrom f n s) : f i = true := by
  have := runLen_all (n - s) (fun t => f (s + t)) (i - s) (by unfold runFrom at h2; omega)
  rwa [show s + (i - s) = i from by omega] at this
theorem runFrom_stop {f : Nat → Bool} {n s : Nat} (hs : s ≤ n) (h : s + runFrom f n s < n) : f (s + runFrom f n s) = false :=
  runLen_stop (n - s) (fun t => f (s + t)) (by unfold runFrom at h; omega)
/-- the runs that begin ahead of a cell -/
def lineW (f : Nat → Bool) (n : Nat) : Nat → List (Nat × Nat)
  | 0 => []
  | t + 1 => if f t = true ∧ downTo f t = t then lineW f n t ++ [(t, runFrom f n t)] else lineW f n t

theorem lineW_len (f : Nat → Bool) (n : Nat) : ∀ t, (lineW f n t).length ≤ t
  | 0 => Nat.le_refl _
  | t + 1 => by
    unfold lineW; have := lineW_len f n t
    split
    · rw [List.length_append]; simp only [List.length_singleton]; omega
    · omega

/-- the last run that begins ahead of a cell is the one that comes to it -/
theorem lineW_last {f : Nat → Bool} {n : Nat} : ∀ t, 0 < t → f (t - 1) = true → ∃ init, lineW f n t = init ++ [(downTo f t, runFrom f n (downTo f t))]
  | 0, h, _ => by omega
  | t + 1, _, h => by
    rw [Nat.add_sub_cancel] at h
    rw [downTo_go h]
    by_cases hd : downTo f t = t
    · refine ⟨lineW f n t, ?_⟩
      show (if f t = true ∧ downTo f t = t then _ else _) = _
      rw [if_pos ⟨h, hd⟩, hd]
    · have ht : 0 < t := by
        rcases Nat.eq_zero_or_pos t with rfl | h'
        · exact absurd rfl hd
        · exact h'
      have hp : f (t - 1) = true := by
        cases hf : f (t - 1)
        · exact absurd (downTo_here (.inr hf)) hd
        · rfl
      obtain ⟨init, hi⟩ := lineW_last (n := n) t ht hp
      refine ⟨init, ?_⟩
      show (if f t = true ∧ downTo f t = t then _ else _) = _
      rw [if_neg (fun h => hd h.2), hi]

theorem lineW_new {f : Nat → Bool} {n t : Nat} (h : f t = true) (hd : downTo f t = t) : lineW f n (t + 1) = lineW f n t ++ [(t, runFrom f n t)] := if_pos ⟨h, hd⟩
theorem lineW_no {f : Nat → Bool} {n t : Nat} (h : f t = false) : lineW f n (t + 1) = lineW f n t := if_neg (fun e => by rw [h] at e; cases e.1)
theorem lineW_on {f : Nat → Bool} {n t : Nat} (h : downTo f t ≠ t) : lineW f n (t + 1) = lineW f n t := if_neg (fun e => h e.2)

theorem lineW_mem {f : Nat → Bool} {n : Nat} : ∀ {t : Nat} {x : Nat × Nat}, x ∈ lineW f n t → x.1 < t ∧ f x.1 = true ∧ downTo f x.1 = x.1 ∧ x.2 = runFrom f n x.1
  | 0, x, h => by simp [lineW] at h
  | t + 1, x, h => by
    unfold lineW at h
    split at h
    · rename_i hc
      rw [List.mem_append, List.mem_singleton] at h
      rcases h with h | rfl
      · have := lineW_mem h; exact ⟨by omega, this.2⟩
      · exact ⟨by show t < t + 1; omega, hc.1, hc.2, rfl⟩
    · have := lineW_mem h; exact ⟨by omega, this.2⟩
/-- the runs that have ended ahead of a cell: all but the one that comes to it -/
def doneW (f : Nat → Bool) (n t : Nat) : List (Nat × Nat) := if 0 < t ∧ f (t - 1) = true then (lineW f n t).dropLast else lineW f n t
/-- where the run that comes to a cell began -/
def openW (f : Nat → Bool) (t : Nat) : Int := if 0 < t ∧ f (t - 1) = true then (downTo f t : Nat) else -1

theorem openW_here {f : Nat → Bool} {t : Nat} (h : openW f t < 0) : downTo f t = t ∧ ¬ (0 < t ∧ f (t - 1) = true) := by
  unfold openW at h
  split at h
  · omega
  · rename_i hc
    refine ⟨downTo_here ?_, hc⟩
    rcases Nat.eq_zero_or_pos t with h' | h'
    · exact .inl h'
    · right
      cases hf : f (t - 1)
      · rfl
      · exact absurd ⟨h', hf⟩ hc
theorem openW_some {f : Nat → Bool} {t : Nat} (h : ¬ openW f t < 0) : openW f t = (downTo f t : Nat) ∧ 0 < t ∧ f (t - 1) = true := by
  unfold openW at h ⊢
  split at h
  · rename_i hc; rw [if_pos hc]; exact ⟨rfl, hc⟩
  · omega
theorem openW_bound (f : Nat → Bool) (t : Nat) : -1 ≤ openW f t ∧ openW f t ≤ t := by
  unfold openW
  have := downTo_le f t
  split <;> omega
theorem openW_zero (f : Nat → Bool) : openW f 0 = -1 := by unfold openW; rw [if_neg (by omega)]
theorem doneW_zero (f : Nat → Bool) (n : Nat) : doneW f n 0 = [] := by unfold doneW; rw [if_neg (by omega)]; rfl

/-- a run begins -/
theorem scan_begin {f : Nat → Bool} {n t : Nat} (h : f t = true) (ho : openW f t < 0) : openW f (t + 1) = (t : Nat) ∧ doneW f n (t + 1) = doneW f n t := by
  obtain ⟨hd, hn⟩ := openW_here ho
  have hc : 0 < t + 1 ∧ f (t + 1 - 1) = true := ⟨by omega, by rw [Nat.add_sub_cancel]; exact h⟩
  refine ⟨by unfold openW; rw [if_pos hc, downTo_go h, hd], ?_⟩
  unfold doneW
  rw [if_pos hc, if_neg hn, lineW_new h hd, List.dropLast_concat]
/-- a run goes on -/
theorem scan_on {f : Nat → Bool} {n t : Nat} (h : f t = true) (ho : ¬ openW f t < 0) : openW f (t + 1) = openW f t ∧ doneW f n (t + 1) = doneW f n t := by
  obtain ⟨he, ht⟩ := openW_some ho
  have hc : 0 < t + 1 ∧ f (t + 1 - 1) = true := ⟨by omega, by rw [Nat.add_sub_cancel]; exact h⟩
  have hd : downTo f t ≠ t := by
    intro hd
    have := downTo_all f t (t - 1)
    obtain ⟨k, rfl⟩ : ∃ k, t = k + 1 := ⟨t - 1, by omega⟩
    have h2 : f k = true := by simpa using ht.2
    rw [downTo_go h2] at hd
    have := downTo_le f k
    omega
  refine ⟨by rw [he]; unfold openW; rw [if_pos hc, downTo_go h], ?_⟩
  unfold doneW
  rw [if_pos hc, if_pos ht, lineW_on hd]
/-- a run has ended -/
theorem scan_end {f : Nat → Bool} {n t : Nat} (h : f t = false) (htn : t ≤ n) (ho : ¬ openW f t < 0) : openW f (t + 1) = -1 ∧ ∃ s : Nat, s < t ∧ openW f t = (s : Nat) ∧ doneW f n (t + 1) = doneW f n t ++ [(s, t - s)] := by
  obtain ⟨he, ht⟩ := openW_some ho
  have hc : ¬ (0 < t + 1 ∧ f (t + 1 - 1) = true) := fun e => by rw [Nat.add_sub_cancel, h] at e; cases e.2
  obtain ⟨init, hi⟩ := lineW_last (n := n) t ht.1 ht.2
  have hle := downTo_le f t
  have hlt : downTo f t < t := by
    obtain ⟨k, rfl⟩ : ∃ k, t = k + 1 := ⟨t - 1, by omega⟩
    have h2 : f k = true := by simpa using ht.2
    rw [downTo_go h2]; have := downTo_le f k; omega
  refine ⟨by unfold openW; rw [if_neg hc], downTo f t, hlt, he, ?_⟩
  unfold doneW
  rw [if_neg hc, if_pos ht, lineW_no h, hi, List.dropLast_concat, runFrom_eq hle htn (fun i a b => downTo_all f t i a b) (fun _ => h)]
/-- no run comes here, none begins -/
theorem scan_none {f : Nat → Bool} {n t : Nat} (h : f t = false) (ho : openW f t < 0) : openW f (t + 1) = openW f t ∧ doneW f n (t + 1) = doneW f n t := by
  obtain ⟨hd, hn⟩ := openW_here ho
  have hc : ¬ (0 < t + 1 ∧ f (t + 1 - 1) = true) := fun e => by rw [Nat.add_sub_cancel, h] at e; cases e.2
  refine ⟨by unfold openW; rw [if_neg hc, if_neg hn], ?_⟩
  unfold doneW
  rw [if_neg hc, if_neg hn, lineW_no h]
theorem scan_all {f : Nat → Bool} {n : Nat} (h : f n = false) : doneW f n (n + 1) = lineW f n n := by
  unfold doneW
  rw [if_neg (fun e => by rw [Nat.add_sub_cancel, h] at e; cases e.2), lineW_no h]
theorem doneW_len (f : Nat → Bool) (n t : Nat) : (doneW f n t).length ≤ t := by
  have := lineW_len f n t
  unfold doneW
  split
  · rw [List.length_dropLast]; omega
  · exact this

/-- a wall: its way, its line, where it begins, how long it is -/
structure Wl where
  way : Nat
  line : Nat
  first : Nat
  long : Nat

/-- the walls of all lines ahead of one -/
def linesW (way : Nat) (F : Nat → Nat → Bool) (n : Nat) : Nat → List Wl
  | 0 => []
  | k + 1 => if k = 0 then linesW way F n k else linesW way F n k ++ (lineW (F k) n n).map fun x => ⟨way, k, x.1, x.2⟩

theorem linesW_succ {way : Nat} {F : Nat → Nat → Bool} {n k : Nat} (h : 1 ≤ k) : linesW way F n (k + 1) = linesW way F n k ++ (lineW (F k) n n).map fun x => ⟨way, k, x.1, x.2⟩ := if_neg (by omega)
theorem linesW_len (way : Nat) (F : Nat → Nat → Bool) (n : Nat) : ∀ k, (linesW way F n k).length ≤ k * n
  | 0 => Nat.zero_le _
  | k + 1 => by
    have := linesW_len way F n k
    have h2 := lineW_len (F k) n n
    unfold linesW
    rw [Nat.succ_mul]
    split
    · omega
    · rw [List.length_append, List.length_map]; omega

/-- two sides of a line -/
def upF (h : Nat) (g : Nat → Nat → Nat) (k i : Nat) : Bool := decide (i < h) && decide (g i (k - 1) ≠ g i k)
def lvF (wd : Nat) (g : Nat → Nat → Nat) (k j : Nat) : Bool := decide (j < wd) && decide (g (k - 1) j ≠ g k j)
def upW (h wd : Nat) (g : Nat → Nat → Nat) : List Wl := linesW 0 (upF h g) h wd
def lvW (h wd : Nat) (g : Nat → Nat → Nat) : List Wl := linesW 1 (lvF wd g) wd h
/-- all walls of a grid, in order -/
def wallsG (h wd : Nat) (g : Nat → Nat → Nat) : List Wl := upW h wd g ++ lvW h wd g

end Go.Proofs.Ytpgcpmfemcfoaaa

/-
  The program's walls: what lies on both sides of a line, where a wall begins and ends. (Walks.)
-/
namespace Go.Proofs.Ytpgcpmfemcfoaaa
open Go.RowKit

/-- the rooms on both sides of a line -/
def sideA (g : Nat → Nat → Nat) (way line i : Nat) : Nat := if way = 0 then g i (line - 1) else g (line - 1) i
def sideB (g : Nat → Nat → Nat) (way line i : Nat) : Nat := if way = 0 then g i line else g line i

/-- the cells of a wall -/
def wlC (x : Wl) : Array Value := #[.int .i64 (x.way : Nat), .int .i64 (x.line : Nat), .int .i64 (x.first : Nat), .int .i64 (x.long : Nat)]
def zeroWl : Wl := ⟨0, 0, 0, 0⟩
end Go.Proofs.Ytpgcpmfemcfoaaa

/-
  Slices of the call's own whose elements are several cells: append, reading. (No function of the program is named.)
-/
namespace Go.Proofs.Ytpgcpmfemcfoaaa
open Go.RowKit

theorem ownsRow_shape {w : World} {base : Nat} {e : TypeId} {size : Nat} {v : Value} {n : Nat} {xs : List Value} (h : w.ownsRow base e size v n xs) : ∃ ao cap, v = .slice ao n cap := by
  rcases h.2 with ⟨rfl, rfl⟩ | ⟨g, cap, _, rfl, _⟩
  · exact ⟨none, 0, rfl⟩
  · exact ⟨_, cap, rfl⟩

theorem ownsK_cells {w : World} {base : Nat} {e : TypeId} {size : Nat} {ao : Option Addr} {m cap n : Nat} {xs : List Value} (h : w.ownsRow base e size (.slice ao m cap) n xs) : CellsAt w ao xs := fun i u hu => by
  rcases h.2 with ⟨hv, hn⟩ | ⟨g, cap', cur, hv, hb, hg, _⟩
  · have hl := h.1
    rw [hn, Nat.zero_mul] at hl
    rw [List.eq_nil_of_length_eq_zero hl] at hu; simp at hu
  · have hv' := hv
    simp only [Value.slice.injEq] at hv'
    obtain ⟨rfl, _, rfl⟩ := hv'
    refine ⟨g, 0, rfl, ?_⟩
    have := h.cells (g := g) rfl i u hu
    rwa [Addr.add_lit] at this

theorem run_pushK {P : Program} (w : World) (base : Nat) (t ty e : TypeId) (i : TypeInfo) (z : Value) (size bytes : Nat) (ht : P.underlying t = some (.slice e)) (hi : P.info? e = some i) (hz : i.zero = some z)
    (hsize : i.size = size) (hby : i.bytes = bytes) (hzs : z.cells.size = size) (hs0 : 0 < size) (ao : Option Addr) (n cap : Nat) (xs : List Value) (hown : w.ownsRow base e size (.slice ao n cap) n xs)
    (us : List Value) (m g off c : Nat) (hm : 0 < m) (hl : us.length = m * size) (hu : ∀ j v, us[j]? = some v → w.cell? ⟨g, off + j, none⟩ = some v) (h1 : ∀ v ∈ us, v.oneCell' = true) (h63 : n + m ≤ maxLen) (hbytes : (n + m) * bytes ≤ 140737488355328) (hbase : base ≤ w.heap.size) :
    ∃ ao' cap' w', (Builtin.append_ #[t, t] ty #[.slice ao n cap, .slice (some ⟨g, off, none⟩) m c]).run P w = .ok (.slice ao' (n + m) cap') w' ∧ w'.ownsRow base e size (.slice ao' (n + m) cap') (n + m) (xs ++ us) ∧
      w.grownBy w' (Value.ownBlock (.slice ao n cap)) ∧ NewOr w ao ao' := by
  have hnews : ∀ (j : Nat) (v : Value), us[j]? = some v → w.cell? ((⟨g, off, none⟩ : Addr).add j) = some v := fun j v hv => by
    rw [Addr.add_lit]
    exact hu j v hv
  obtain ⟨v', w', hr, hown', hg, _⟩ := run_append_own (P := P) w base t ty e i z size bytes ht hi hz hsize hby hzs hs0 _ n xs hown ⟨g, off, none⟩ m c us hl hnews h1 h63 hbytes hbase
  obtain ⟨ao', cap', rfl⟩ := ownsRow_shape hown'
  refine ⟨ao', cap', w', hr, hown', hg, ?_⟩
  intro a' ha'
  subst ha'
  rcases hown.2 with ⟨hv, rfl⟩ | ⟨g0, cap0, cur, hv, hbg, hgg, hnc, hcm, hcs, htake⟩
  · simp only [Value.slice.injEq] at hv
    obtain ⟨rfl, _, rfl⟩ := hv
    right
    have hx : xs = [] := List.eq_nil_of_length_eq_zero (by have := hown.1; rw [Nat.zero_mul] at this; exact this)
    subst hx
    have hr' := run_append_nil (P := P) w t ty e i z ht hi hz ⟨g, off, none⟩ m c us (by rw [hsize]; exact hl) hnews hm (by simp only [maxLen] at h63; omega) (by rw [hby]; rw [Nat.zero_add] at hbytes; omega)
    rw [hr'] at hr
    simp only [Result.ok.injEq, Value.slice.injEq, Option.some.injEq] at hr
    have := hr.1.1
    rw [← this]
    exact Nat.le_refl _
  · simp only [Value.slice.injEq] at hv
    obtain ⟨rfl, _, rfl⟩ := hv
    by_cases hroom : n + m ≤ cap
    · left
      have hr' := run_append_room (P := P) w t ty e i ht hi g0 n cap cur hgg ⟨g, off, none⟩ m c us (by rw [hsize]; exact hl) hnews h1 hroom (by rw [hsize, hl, hcs, ← Nat.add_mul]; exact Nat.mul_le_mul_right _ hroom)
      rw [hr'] at hr
      simp only [Result.ok.injEq, Value.slice.injEq] at hr
      exact hr.1.1
    · right
      have holds : ∀ j v, xs[j]? = some v → w.cell? ((⟨g0, 0, none⟩ : Addr).add j) = some v := hown.cells (g := g0) rfl
      have hr' := run_append_grow (P := P) w t ty e i z ht hi hz ⟨g0, 0, none⟩ n cap xs (by rw [hsize]; exact hown.1) holds ⟨g, off, none⟩ m c us (by rw [hsize]; exact hl) hnews (by omega) (by simp only [maxLen] at h63; omega) (growslice_fits (by simp only [maxLen] at h63; omega) (by rw [hby]; exact hbytes))
      rw [hr'] at hr
      simp only [Result.ok.injEq, Value.slice.injEq, Option.some.injEq] at hr
      rw [← hr.1.1]
      exact Nat.le_refl _

theorem wpList_pushK {P : Program} (w : World) {ops : Array Oper} {rest : List Oper} {o : Oper} {a : Act} {Q : Exit → Act → World → Prop} (hgd : o.guard = none) (s x : Operand) (t : TypeId)
    (ho : o.op = .call { callee := .builtin .append, args := #[s, x], argTypes := #[t, t] })
    (base : Nat) (e : TypeId) (i : TypeInfo) (z : Value) (size bytes : Nat) (ht : P.underlying t = some (.slice e)) (hi : P.info? e = some i) (hz : i.zero = some z)
    (hsize : i.size = size) (hby : i.bytes = bytes) (hzs : z.cells.size = size) (hs0 : 0 < size) (ao : Option Addr) (n cap : Nat) (xs : List Value) (hs : a.eval s = .slice ao n cap) (hown : w.ownsRow base e size (.slice ao n cap) n xs)
    (us : List Value) (m g off c : Nat) (hx : a.eval x = .slice (some ⟨g, off, none⟩) m c) (hm : 0 < m) (hl : us.length = m * size) (hu : ∀ j v, us[j]? = some v → w.cell? ⟨g, off + j, none⟩ = some v) (h1 : ∀ v ∈ us, v.oneCell' = true) (h63 : n + m ≤ maxLen) (hbytes : (n + m) * bytes ≤ 140737488355328) (hbase : base ≤ w.heap.size)
    (h : ∀ ao' cap' w', w'.ownsRow base e size (.slice ao' (n + m) cap') (n + m) (xs ++ us) → w.grownBy w' (Value.ownBlock (.slice ao n cap)) → NewOr w ao ao' → wpList P ops Q rest (a.put o.dst (.slice ao' (n + m) cap')) w') : wpList P ops Q (o :: rest) a w := by
  refine wpList_plain hgd fun K hK' => ?_
  obtain ⟨ao', cap', w', hrun, r1, r2, r3⟩ := run_pushK (P := P) w base t o.type e i z size bytes ht hi hz hsize hby hzs hs0 ao n cap xs hown us m g off c hm hl hu h1 h63 hbytes hbase
  unfold Oper.wp
  simp [execOp, ho, resolve, invoke, builtin, hs, hx, hrun, Result.andThen]
  exact hK' _ _ (h ao' cap' w' r1 r2 r3)

/-- the cells of a block that has just been made -/
theorem cells_new (w : World) (C : Array Value) (t : TypeId) : ∀ j v, C.toList[j]? = some v → (w.alloc (.cells C t)).cell? ⟨w.heap.size, 0 + j, none⟩ = some v := fun j v hv => by
  rw [Nat.zero_add, (HeldB.new w t C).cell j, ← hv]
  simp

theorem kept_own {W W' : World} {B : Nat} {t : TypeId} {cs : Array Value} {ao : Option Addr} {m cap : Nat} (h : HeldB W B t cs) (hg : W.grownBy W' (Value.ownBlock (.slice ao m cap))) (hne : ∀ a, ao = some a → a.block ≠ B) : HeldB W' B t cs :=
  h.kept hg (by
    cases ao with
    | none => simp [Value.ownBlock]
    | some a => simp only [Value.ownBlock, ne_eq, Option.some.injEq]; exact fun e => hne a rfl e.symm)
theorem below_of_grownBy' {B : Nat} {W w w' : World} {ao : Option Addr} {m cap : Nat} (hb : Below B W w) (hg : w.grownBy w' (Value.ownBlock (.slice ao m cap))) (hne : ∀ a, ao = some a → B ≤ a.block) (hB : B ≤ W.heap.size := by omega) : Below B W w' :=
  hb.trans (below_of_grownBy hg (Nat.le_trans hB hb.size) (fun k hk => by
    cases ao with
    | none => simp [Value.ownBlock] at hk
    | some a => simp only [Value.ownBlock, Option.some.injEq] at hk; subst hk; exact hne a rfl))

theorem CellsAt.setOther {w : World} {ao : Option Addr} {xs : List Value} (h : CellsAt w ao xs) {p : Addr} (hne : ∀ a, ao = some a → a.block ≠ p.block) (v : Value) : CellsAt (w.setCell p v) ao xs := fun i u hu => by
  obtain ⟨b, off, rfl, hc⟩ := h i u hu
  exact ⟨b, off, rfl, (World.cell?_of_block (a := ⟨b, off + i, none⟩) (Below.heap_setCell w p v b (hne _ rfl))).trans hc⟩

end Go.Proofs.Ytpgcpmfemcfoaaa

/-
  The program's walls, all of them, in order. (Walk.)
-/
namespace Go.Proofs.Ytpgcpmfemcfoaaa
open Go.RowKit

def wlsC (L : List Wl) : List Value := L.flatMap fun x => (wlC x).toList
/-- what lies in memory while walls are gathered -/
def WallsSt (w : World) (C : Array Value) (L : List Wl) (ro : Option Addr) (rc : Nat) (wr : World) : Prop :=
  wr.ownsRow (w.heap.size + 2) 108 4 (.slice ro L.length rc) L.length (wlsC L) ∧ HeldB wr w.heap.size 47 C ∧ HeldB wr (w.heap.size + 1) 3 #[.int .i64 0, .int .i64 1] ∧ w.heap.size + 2 ≤ wr.heap.size ∧ Below w.heap.size w wr

theorem WallsSt.below {w : World} {C : Array Value} {L : List Wl} {ro : Option Addr} {rc : Nat} {wr w1 : World} (h : WallsSt w C L ro rc wr) (hb : Below wr.heap.size wr w1) : WallsSt w C L ro rc w1 :=
  ⟨ownsRow_below h.1 hb, h.2.1.below hb, h.2.2.1.below hb, Nat.le_trans h.2.2.2.1 hb.size, below_step h.2.2.2.2 h.2.2.2.2.size hb⟩
theorem WallsSt.plan {w : World} {C : Array Value} {L : List Wl} {ro : Option Addr} {rc : Nat} {wr : World} (h : WallsSt w C L ro rc wr) : HeldB wr w.heap.size 47 C := h.2.1
theorem WallsSt.eq {w : World} {C : Array Value} {L L' : List Wl} {ro : Option Addr} {rc : Nat} {wr : World} (h : WallsSt w C L ro rc wr) (he : L = L') : WallsSt w C L' ro rc wr := he ▸ h

end Go.Proofs.Ytpgcpmfemcfoaaa
