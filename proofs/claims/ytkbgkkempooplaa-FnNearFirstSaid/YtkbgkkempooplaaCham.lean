
/-
  Merged texts: ChamE ChamB ChamR ChamL.
-/
import Derived.Test.YtkbgkkempooplaaLink
import Derived.Test.YtkbgkkempooplaaNears
import Derived.Test.YtkbgkkempooplaaOutI

/-
  All cells along walls, wall by wall, are the cells along which rooms lie beside each other. (Plain mathematics.)
-/
namespace Go.Proofs.Ytkbgkkempooplaa
open Go.RowKit

theorem sumN_cut (a b : Nat) (f : Nat → Nat) : sumN (a + b) f = sumN a f + sumN b (fun i => f (a + i)) := by
  induction b with
  | zero => rfl
  | succ b ih => show sumN (a + b) f + f (a + b) = sumN a f + (sumN b _ + f (a + b)); rw [ih, Nat.add_assoc]

/-- how often two rooms stand beside each other in a list of pairs -/
def cntE (E : List (Nat × Nat)) (a b : Nat) : Nat := E.countP fun e => decide (e = (a, b) ∨ e = (b, a))
theorem cntE_append (E F : List (Nat × Nat)) (a b : Nat) : cntE (E ++ F) a b = cntE E a b + cntE F a b := by simp [cntE, List.countP_append]
theorem cntE_one (x y a b : Nat) : cntE [(x, y)] a b = if (x = a ∧ y = b) ∨ (x = b ∧ y = a) then 1 else 0 := by
  unfold cntE; rw [List.countP_singleton]; simp only [Prod.mk.injEq, decide_eq_true_eq]
/-- the rooms on both sides of a wall, cell by cell -/
def edgesN (g : Nat → Nat → Nat) (x : Wl) (n : Nat) : List (Nat × Nat) := (List.range n).map fun t => (sideA g x.way x.line (x.first + t), sideB g x.way x.line (x.first + t))
def edgesW (g : Nat → Nat → Nat) (x : Wl) : List (Nat × Nat) := edgesN g x x.long
theorem edgesN_succ (g : Nat → Nat → Nat) (x : Wl) (n : Nat) : edgesN g x (n + 1) = edgesN g x n ++ [(sideA g x.way x.line (x.first + n), sideB g x.way x.line (x.first + n))] := by
  unfold edgesN; rw [List.range_succ, List.map_append]; rfl
def edgesL (g : Nat → Nat → Nat) (L : List Wl) : List (Nat × Nat) := L.flatMap (edgesW g)
theorem edgesL_append (g : Nat → Nat → Nat) (L K : List Wl) : edgesL g (L ++ K) = edgesL g L ++ edgesL g K := by simp [edgesL]
theorem edgesL_one (g : Nat → Nat → Nat) (x : Wl) : edgesL g [x] = edgesW g x := by simp [edgesL]

def hitE (g : Nat → Nat → Nat) (way : Nat) (a b line i : Nat) : Bool := decide ((sideA g way line i = a ∧ sideB g way line i = b) ∨ (sideA g way line i = b ∧ sideB g way line i = a))
theorem cntE_edges (g : Nat → Nat → Nat) (x : Wl) (a b : Nat) : ∀ n, cntE (edgesN g x n) a b = sumN n fun t => if hitE g x.way a b x.line (x.first + t) = true then 1 else 0
  | 0 => rfl
  | n + 1 => by
    rw [edgesN_succ, cntE_append, cntE_edges g x a b n, cntE_one]
    show _ = sumN n _ + _
    unfold hitE
    simp only [decide_eq_true_eq]

/-- where the runs that begin ahead of a cell end -/
def endCh (f : Nat → Bool) (n t : Nat) : Nat := if 0 < t ∧ f (t - 1) = true then downTo f t + runFrom f n (downTo f t) else t
theorem endCh_all {f : Nat → Bool} {n : Nat} : endCh f n n = n := by
  unfold endCh
  split
  · rename_i h
    have h1 := downTo_le f n
    rw [runFrom_eq h1 (Nat.le_refl _) (fun i a b => downTo_all f n i a b) (fun h => absurd h (Nat.lt_irrefl _))]
    omega
  · rfl
/-- cells of runs: the cells at which the line is a wall -/
theorem cntE_line (g : Nat → Nat → Nat) (f : Nat → Bool) (way k n a b : Nat) : ∀ t, t ≤ n → cntE (edgesL g (lineL way k (lineW f n t))) a b = sumN (endCh f n t) fun i => if (f i && hitE g way a b k i) = true then 1 else 0
  | 0, _ => by
    have : endCh f n 0 = 0 := by unfold endCh; rw [if_neg (by omega)]
    rw [this]; rfl
  | t + 1, ht => by
    have ih := cntE_line g f way k n a b t (by omega)
    cases hf : f t
    · have e1 : endCh f n (t + 1) = t + 1 := by unfold endCh; rw [if_neg (by rw [Nat.add_sub_cancel, hf]; simp)]
      have e0 : endCh f n t = t := by
        unfold endCh
        split
        · have h1 := downTo_le f t
          rw [runFrom_eq h1 (by omega) (fun i a b => downTo_all f t i a b) (fun _ => hf)]
          omega
        · rfl
      rw [lineW_no hf, ih, e0, e1]
      show _ = sumN t _ + (if (f t && hitE g way a b k t) = true then 1 else 0)
      rw [hf]; rfl
    · have e1 : endCh f n (t + 1) = downTo f t + runFrom f n (downTo f t) := by unfold endCh; rw [if_pos ⟨by omega, by rw [Nat.add_sub_cancel]; exact hf⟩, downTo_go hf]
      by_cases hd : downTo f t = t
      · have e0 : endCh f n t = t := by
          unfold endCh
          rw [if_neg]
          rintro ⟨h0, h1⟩
          obtain ⟨s, rfl⟩ : ∃ s, t = s + 1 := ⟨t - 1, by omega⟩
          rw [Nat.add_sub_cancel] at h1
          rw [downTo_go h1] at hd
          have := downTo_le f s; omega
        rw [lineW_new hf hd, e1, hd]
        unfold lineL at ih ⊢
        rw [List.map_append, edgesL_append, cntE_append, ih, e0, sumN_cut]
        congr 1
        rw [List.map_singleton, edgesL_one]
        unfold edgesW
        rw [cntE_edges]
        refine sumN_congr fun i hi => ?_
        have : f (t + i) = true := runFrom_all (n := n) (s := t) (by omega) (by simpa using hi)
        rw [this, Bool.true_and]
      · have e0 : endCh f n t = downTo f t + runFrom f n (downTo f t) := by
          unfold endCh
          rw [if_pos]
          refine ⟨?_, ?_⟩
          · rcases Nat.eq_zero_or_pos t with rfl | h
            · exact absurd rfl hd
            · exact h
          · cases hp : f (t - 1)
            · exact absurd (downTo_here (.inr hp)) hd
            · rfl
        rw [lineW_on hd, ih, e0, e1]
/-- .. of all lines of a way -/
theorem cntE_lines (g : Nat → Nat → Nat) (F : Nat → Nat → Bool) (way n a b : Nat) (hF : ∀ k i, i < n → hitE g way a b k i = true → F k i = true) : ∀ k, cntE (edgesL g (linesW way F n k)) a b = sumN (k - 1) fun t => sumN n fun i => if hitE g way a b (t + 1) i = true then 1 else 0
  | 0 => rfl
  | 1 => rfl
  | k + 2 => by
    rw [linesP_step way (k + 1) F n (by omega), edgesL_append, cntE_append, cntE_lines g F way n a b hF (k + 1), cntE_line g (F (k + 1)) way (k + 1) n a b n (Nat.le_refl _), endCh_all]
    show _ = sumN k _ + _
    congr 1
    refine sumN_congr fun i hi => ?_
    cases hh : hitE g way a b (k + 1) i
    · rw [Bool.and_false]
    · rw [hF _ _ hi hh]; rfl

theorem letter_roomC {p : List ByteArray} (hp : PlanP p) {i j : Nat} (hi : i < p.length) (hj : j < wideB p) : ((byteAt p i j).toNat : Int) - 97 = ((gridG p i j : Nat) : Int) := by
  have h1 := hp.grid.letter hi hj
  have h2 := markN_lt p i j
  rw [h1, UInt8.toNat_ofNat', ← hp.mark i j hi hj]
  omega

theorem hit_eq {q : List ByteArray} {a b i k : Nat} {x y : Nat} (hx : ((byteAt q i (k - 1)).toNat : Int) - 97 = (x : Nat)) (hy : ((byteAt q i k).toNat : Int) - 97 = (y : Nat)) :
    hitL q (a : Int) (b : Int) i k = decide ((x = a ∧ y = b) ∨ (x = b ∧ y = a)) := by
  unfold hitL
  rw [hx, hy, Bool.eq_iff_iff]
  simp only [Bool.or_eq_true, Bool.and_eq_true, beq_iff_eq, decide_eq_true_eq]
  omega

/-- the cells along all walls between two rooms -/
theorem cntE_walls {p : List ByteArray} (h : planB p = true) {a b : Nat} (hab : a ≠ b) : cntE (edgesL (gridG p) (wallsG p.length (wideB p) (gridG p))) a b = besN p (a : Int) (b : Int) := by
  have hp := planP_of h
  have hne : ¬ ((a : Int) = (b : Int)) := by omega
  have w1 := hp.grid.w1; have h1 := hp.grid.h1
  unfold besN wallsG upW lvW
  rw [if_neg hne, edgesL_append, cntE_append,
    cntE_lines (gridG p) (upF p.length (gridG p)) 0 p.length a b (fun k i hi hh => by
      unfold hitE sideA sideB at hh; unfold upF
      simp only [if_true, decide_eq_true_eq] at hh
      rw [Bool.and_eq_true, decide_eq_true_eq, decide_eq_true_eq]
      exact ⟨hi, by omega⟩) (wideB p),
    cntE_lines (gridG p) (lvF (wideB p) (gridG p)) 1 (wideB p) a b (fun k i hi hh => by
      unfold hitE sideA sideB at hh; unfold lvF
      simp only [Nat.one_ne_zero, if_false, decide_eq_true_eq] at hh
      rw [Bool.and_eq_true, decide_eq_true_eq, decide_eq_true_eq]
      exact ⟨hi, by omega⟩) p.length]
  congr 1
  · rw [sumN_comm]
    unfold lenL rowL
    refine sumN_congr fun i hi => sumN_congr fun t ht => ?_
    rw [hit_eq (by rw [Nat.add_sub_cancel]; exact letter_roomC hp hi (by omega)) (letter_roomC hp hi (show t + 1 < wideB p by omega))]
    unfold hitE sideA sideB
    simp only [if_true, Nat.add_sub_cancel]
  · rw [sumN_comm]
    unfold lenL rowL
    rw [transB_wide w1]
    refine sumN_congr fun j hj => sumN_congr fun t ht => ?_
    rw [hit_eq (by rw [Nat.add_sub_cancel, trans_byte hj (by omega)]; exact letter_roomC hp (by omega) hj) (by rw [trans_byte hj (by omega)]; exact letter_roomC hp (show t + 1 < p.length by omega) hj)]
    unfold hitE sideA sideB
    simp only [Nat.one_ne_zero, if_false, Nat.add_sub_cancel]

end Go.Proofs.Ytkbgkkempooplaa

/-
  A plan's rooms, linked to their neighbours. (Walk.)
-/
namespace Go.Proofs.Ytkbgkkempooplaa
open Go.RowKit

def ptrs (Q n : Nat) : List Value := (List.range n).map fun k => .pointer (some ⟨Q + k, 0, none⟩)
theorem ptrs_succ (Q n : Nat) : ptrs Q (n + 1) = ptrs Q n ++ [.pointer (some ⟨Q + n, 0, none⟩)] := by unfold ptrs; rw [List.range_succ, List.map_append]; rfl
theorem ptrs_len (Q n : Nat) : (ptrs Q n).length = n := by simp [ptrs]
theorem ptrs_at {Q n k : Nat} (h : k < n) : (ptrs Q n)[k]? = some (.pointer (some ⟨Q + k, 0, none⟩)) := by simp [ptrs, h]

theorem Try.infoPtr : (Try.prog.info? 44).map (fun i => (i.zero, i.size, i.bytes)) = some (some (.pointer none), 1, 8) := by kernel_rfl

theorem edges_few (g : Nat → Nat → Nat) : ∀ (L : List Wl), (∀ x ∈ L, x.long ≤ 6) → (edgesL g L).length ≤ L.length * 6
  | [], _ => Nat.le_refl _
  | x :: L, h => by
    have ih := edges_few g L (fun y hy => h y (by simp [hy]))
    have hx := h x (by simp)
    show (edgesL g ([x] ++ L)).length ≤ _
    rw [edgesL_append, List.length_append, edgesL_one, List.length_cons]
    unfold edgesW edgesN
    rw [List.length_map, List.length_range]; omega
theorem cntE_few (E : List (Nat × Nat)) (a b : Nat) : cntE E a b ≤ E.length := List.countP_le_length

/-- one pair more: both rooms' lengths are one greater -/
theorem cntE_two (E : List (Nat × Nat)) {a b : Nat} (hab : a ≠ b) (n r : Nat) : lnk n (up2 (up2 (cntE E) a b) b a r) = lnk n (cntE (E ++ [(a, b)]) r) := by
  refine lnkL_congr fun y _ => ?_
  rw [cntE_append, cntE_one]
  unfold up2 up1
  by_cases h1 : r = b <;> by_cases h2 : r = a
  · omega
  · subst h1
    simp only [if_true, if_neg h2]
    by_cases h3 : y = a
    · subst h3; simp
    · rw [if_neg h3, if_neg (by omega), Nat.add_zero]
  · subst h2
    simp only [if_true, if_neg h1]
    by_cases h3 : y = b
    · subst h3; simp
    · rw [if_neg h3, if_neg (by omega), Nat.add_zero]
  · simp only [if_neg h1, if_neg h2]
    rw [if_neg (by omega), Nat.add_zero]

theorem ptr_cell {w : World} {Rb Q n a : Nat} (h : CellsAt w (some ⟨Rb, 0, none⟩) (ptrs Q n)) (ha : a < n) : w.cell? ⟨Rb, a, none⟩ = some (.pointer (some ⟨Q + a, 0, none⟩)) := by
  obtain ⟨b, off, he, hc⟩ := h a _ (ptrs_at ha)
  simp only [Option.some.injEq, Addr.mk.injEq, and_true] at he
  obtain ⟨rfl, rfl⟩ := he
  rwa [Nat.zero_add] at hc
theorem lnk_zero (n r : Nat) : lnk n (cntE [] r) = [] := by simp [lnk, lnkL, cntE]

/-- what lies in memory while links are laid -/
def LaySt (w : World) (C : Array Value) (Rb Q n : Nat) (E : List (Nat × Nat)) (K : Nat → Prop) (wr : World) : Prop :=
  HeldB wr w.heap.size 60 C ∧ CellsAt wr (some ⟨Rb, 0, none⟩) (ptrs Q n) ∧ (∃ so sc, ChB wr Q n (cntE E) K so sc) ∧ Q + n ≤ wr.heap.size ∧ (∀ k, K k → k < wr.heap.size) ∧ Below w.heap.size w wr

theorem LaySt.step {w : World} {C : Array Value} {Rb Q n : Nat} {E : List (Nat × Nat)} {K K' : Nat → Prop} {wr w' : World} (h : LaySt w C Rb Q n E K wr) (hb : Below wr.heap.size wr w') (hk : ∀ k, K' k → K k ∨ wr.heap.size ≤ k) (hk2 : ∀ k, K' k → k < w'.heap.size) : LaySt w C Rb Q n E K' w' := by
  obtain ⟨h1, h2, ⟨so, sc, h3⟩, h4, h5, h6⟩ := h
  exact ⟨h1.below hb, h2.below hb, ⟨so, sc, h3.step hb hk⟩, Nat.le_trans h4 hb.size, hk2, below_step h6 h6.size hb⟩
theorem LaySt.below {w : World} {C : Array Value} {Rb Q n : Nat} {E : List (Nat × Nat)} {K : Nat → Prop} {wr w' : World} (h : LaySt w C Rb Q n E K wr) (hb : Below wr.heap.size wr w') : LaySt w C Rb Q n E K w' :=
  h.step hb (fun _ h => .inl h) (fun k hk => Nat.lt_of_lt_of_le (h.2.2.2.2.1 k hk) hb.size)
theorem LaySt.eq {w : World} {C : Array Value} {Rb Q n : Nat} {E E' : List (Nat × Nat)} {K : Nat → Prop} {wr : World} (h : LaySt w C Rb Q n E K wr) (he : E = E') : LaySt w C Rb Q n E' K wr := he ▸ h

/-- two rooms linked along one cell more: the program's two calls -/
theorem lay_pair (w : World) (C : Array Value) (Rb Q n : Nat) (E : List (Nat × Nat)) (K : Nat → Prop) (a b : Nat) (hn : n ≤ 9) (ha : a < n) (hb : b < n) (hab : a ≠ b) (hE : E.length ≤ 900) (hK : ∀ k, K k → k < Q ∨ Q + n ≤ k) (hKQ : ∀ k, k < Q → K k) (hwQ : w.heap.size < Q) (hRQ : Rb < Q) :
    ∀ wr, LaySt w C Rb Q n E K wr → Calls Try.prog 70 #[.pointer (some ⟨Q + a, 0, none⟩), .pointer (some ⟨Q + b, 0, none⟩)] wr fun e w1 => e = .returned (.tuple #[]) ∧ CellsAt w1 (some ⟨Rb, 0, none⟩) (ptrs Q n) ∧ HeldB w1 w.heap.size 60 C ∧ KeptK K wr w1 ∧
      (∀ w1', w1'.heap = w1.heap → w1'.os = w1.os → w1'.tape = w1.tape → w1'.output = w1.output → Calls Try.prog 70 #[.pointer (some ⟨Q + b, 0, none⟩), .pointer (some ⟨Q + a, 0, none⟩)] w1' fun e w2 => e = .returned (.tuple #[]) ∧ LaySt w C Rb Q n (E ++ [(a, b)]) K w2 ∧ KeptK K wr w2) := by
  intro wr h
  obtain ⟨h1, h2, ⟨so, sc, h3⟩, h4, h5, h6⟩ := h
  have hf := cntE_few E a b
  refine (touch_any Q n a b (cntE E) K so sc wr hn ha hb h4 (by omega) h3 hK h5).mono ?_
  rintro e w1 ⟨rfl, ⟨so1, sc1, c1⟩, k1⟩
  refine ⟨rfl, k1.cells h2 (fun x hx => by simp only [Option.some.injEq] at hx; subst hx; exact hKQ _ hRQ), k1.held h1 (hKQ _ hwQ), k1, fun w1' e1 e2 e3 e4 => ?_⟩
  have hbw : Below w1.heap.size w1 w1' := ⟨e2, e3, e4, by rw [e1]; exact Nat.le_refl _, fun k _ => by rw [e1]⟩
  have hf2 : up2 (cntE E) a b b a ≤ 1000 := by
    have := cntE_few E b a
    unfold up2; rw [if_neg (Ne.symm hab)]; omega
  have s1 := k1.size
  refine (touch_any Q n b a (up2 (cntE E) a b) K so1 sc1 w1' hn hb ha (by rw [e1]; omega) hf2 (c1.below hbw) hK (fun k hk => by rw [e1]; have := h5 k hk; omega)).mono ?_
  rintro e w2 ⟨rfl, ⟨so2, sc2, c2⟩, k2⟩
  have k12 := (k1.trans (KeptK.of_below hbw)).trans k2
  have s2 := k12.size
  refine ⟨rfl, ⟨k12.held h1 (hKQ _ hwQ), k12.cells h2 (fun x hx => by simp only [Option.some.injEq] at hx; subst hx; exact hKQ _ hRQ), ⟨so2, sc2, c2.eq fun r _ => cntE_two E hab n r⟩, by omega, fun k hk => by have := h5 k hk; omega, ?_⟩, k12⟩
  exact h6.trans (k12.below (fun k hk => hKQ k (by omega)) (by omega))

set_option maxRecDepth 100000 in
set_option maxHeartbeats 4000000 in
theorem chambers_any (h wd r : Nat) (g : Nat → Nat → Nat) (w : World) (hh : h ≤ 6) (hw : wd ≤ 6) (hr : r ≤ 9) (hg : ∀ i j, i < h → j < wd → g i j < r) :
    Calls Try.prog 50 #[.agg (planC h wd r g)] w
      fun e w' => ∃ Rb c Q, e = .returned (.slice (some ⟨Rb, 0, none⟩) r c) ∧ CellsAt w' (some ⟨Rb, 0, none⟩) (ptrs Q r) ∧ (∃ so sc, ChB w' Q r (cntE (edgesL g (wallsG h wd g))) (fun k => k < Q) so sc) ∧ w.heap.size ≤ Q ∧ Q + r ≤ w'.heap.size ∧ Below w.heap.size w w' := by
  obtain ⟨ip, hpi, hpz, hp1, hp2⟩ := info_parts Try.infoPtr
  have HWA := Lib.hid (fun w => walls_any h wd r g w hh hw)
  have HAC := Lib.hid (fun (way line i : Nat) (h1 : 1 ≤ line) (h2 : line < 6) (h3 : i < 6) w => across_any h wd r g way line i w h1 h2 h3)
  have HCS := Lib.hid (planC_size h wd r g)
  have HWM := Lib.hid (fun x (hx : x ∈ wallsG h wd g) => by
    obtain ⟨m1, m2, m3, m4, m5, m6⟩ := wallsG_mem hx
    have a1 : acrossN h wd x.way ≤ 6 := by unfold acrossN; split <;> omega
    have a2 : alongN h wd x.way ≤ 6 := by unfold alongN; split <;> omega
    refine (⟨m1, m2, by omega, by omega, fun i h1 h2 => ?_⟩ : x.way < 2 ∧ 1 ≤ x.line ∧ x.line < 6 ∧ x.first + x.long ≤ 6 ∧ ∀ i, x.first ≤ i → i < x.first + x.long → sideA g x.way x.line i < r ∧ sideB g x.way x.line i < r ∧ sideA g x.way x.line i ≠ sideB g x.way x.line i)
    have h3 := m6 i h1 h2
    unfold wayF upF lvF at h3
    unfold sideA sideB
    unfold acrossN at m3
    unfold alongN at m5
    rcases (show x.way = 0 ∨ x.way = 1 by omega) with hw0 | hw0
    · rw [hw0] at h3 m3 m5 ⊢
      simp only [if_true] at h3 m3 m5 ⊢
      rw [Bool.and_eq_true, decide_eq_true_eq, decide_eq_true_eq] at h3
      exact ⟨hg _ _ (by omega) (by omega), hg _ _ (by omega) (by omega), h3.2⟩
    · rw [hw0] at h3 m3 m5 ⊢
      simp only [Nat.one_ne_zero, if_false] at h3 m3 m5 ⊢
      rw [Bool.and_eq_true, decide_eq_true_eq, decide_eq_true_eq] at h3
      exact ⟨hg _ _ (by omega) (by omega), hg _ _ (by omega) (by omega), h3.2⟩)
  have hWL := wallsG_len (g := g) hh hw
  have hp2' := planC_2 h wd r g
  generalize wallsG h wd g = L at *
  generalize planC h wd r g = C at *
  have hsz : (Try.prog.info? 60).map (·.size) = some C.size := by rw [HCS.out]; kernel_rfl
  have HSZ := Lib.hid hsz; clear hsz hg hh hw
  have hb0 : HeldB (w.alloc (.cells C 60)) w.heap.size 60 C := HeldB.new w _ _
  have c2 : (w.alloc (.cells C 60)).cell? ⟨w.heap.size, 2, none⟩ = some (.int .i64 (r : Nat)) := (hb0.cell 2).trans hp2'
  go_enter Try.func50, Try.ntmps50
  go_wp2_with (at_make; refine wpList_make_full _ rfl _ _ 41 rfl (w.heap.size + 1) 44 ip (.pointer none) 1 Try.underlying41 hpi hpz hp1 .i64 .i64 _ _ r rfl rfl rfl rfl ?d2 ?d3 (by simp) ?_; rotate_left 2; intro w2 htx hg2)
  case d2 => rw [hp2]; omega
  case d3 => unfold maxLen; omega
  have hown2 : w2.ownsRow (w.heap.size + 1) 44 1 (.slice (some ⟨w.heap.size + 1, 0, none⟩) r r) r (ptrs w2.heap.size 0 ++ List.replicate (r - 0) (.pointer none)) := by
    have h := htx
    rw [show (.pointer none : Value).cells = #[.pointer none] from rfl, Nat.mul_one, toList_madeCells_one, World.size_alloc] at h
    simpa [ptrs] using h
  have bP2 := hb0.kept hg2 (by simp)
  have hB2 : Below w.heap.size w w2 := ((below_alloc w (.cells C 60))).trans (below_of_grownBy hg2 (by simp) (by simp))
  have hR2 : w.heap.size + 1 < w2.heap.size := (owns_lt hown2 _ rfl).2
  clear htx hg2 hb0 c2 hp2'
  obtain ⟨Rb, hRb⟩ : ∃ Rb, Rb = w.heap.size + 1 := ⟨_, rfl⟩
  rw [← hRb] at hown2 hR2
  rw [← hRb]
  obtain ⟨Q, hQ⟩ : ∃ Q, Q = w2.heap.size := ⟨_, rfl⟩
  rw [← hQ] at hown2 hR2
  have hRb' : w.heap.size < Rb := by omega
  clear hRb
  go_loopw [15] (fun vi wr => ∃ i : Nat, i ≤ r ∧ vi = .int .i64 i ∧ HeldB wr w.heap.size 60 C ∧ wr.ownsRow Rb 44 1 (.slice (some ⟨Rb, 0, none⟩) r r) r (ptrs Q i ++ List.replicate (r - i) (.pointer none)) ∧
    (∀ k, k < i → HeldB wr (Q + k) 51 (chaC k none 0 0)) ∧ wr.heap.size = Q + i ∧ Below w.heap.size w wr) (fun vi _ => r - (intOf vi).toNat)
  case atStart => exact ⟨0, Nat.zero_le _, rfl, bP2, hown2, fun k hk => by omega, by omega, hB2⟩
  case round =>
    clear bP2 hown2 hB2 hQ
    obtain ⟨i, hi, rfl, bP, hown, hch, hsize, hB⟩ := hrel
    by_cases hlt : i < r
    · have hlt' : decide ((i : Int) < (r : Int)) = true := by rw [decide_eq_true_eq]; omega
      have hown1 := hown.alloc (.cells #[.int .i64 (i : Nat), .slice none 0 0] 51)
      have hcell := hown1.cellAt i (by omega)
      rw [List.getElem?_append_right (by rw [ptrs_len]; omega), List.getElem?_replicate, if_pos (by rw [ptrs_len]; omega)] at hcell
      have hfz := hown1.frozenAt i
      have hst := (hown1.stored i (.pointer (some ⟨Q + i, 0, none⟩))).1
      rw [fill_set _ _ _ _ _ hlt (by rw [ptrs_len]), ← ptrs_succ] at hst
      have bP2 := (bP.alloc (.cells #[.int .i64 (i : Nat), .slice none 0 0] 51)).other (a := ⟨Rb, i, none⟩) (by show w.heap.size ≠ Rb; omega) (.pointer (some ⟨Q + i, 0, none⟩))
      have hch2 : ∀ k, k < i + 1 → HeldB ((wr.alloc (.cells #[.int .i64 (i : Nat), .slice none 0 0] 51)).setCell ⟨Rb, i, none⟩ (.pointer (some ⟨Q + i, 0, none⟩))) (Q + k) 51 (chaC k none 0 0) := fun k hk => by
        rcases Nat.lt_or_ge k i with h' | h'
        · exact ((hch k h').alloc _).other (a := ⟨Rb, i, none⟩) (by show Q + k ≠ Rb; omega) _
        · obtain rfl : k = i := by omega
          have := HeldB.new wr 51 (chaC k none 0 0)
          rw [hsize] at this
          exact this.other (a := ⟨Rb, k, none⟩) (by show Q + k ≠ Rb; omega) _
      have hB2 := (hB.alloc hB.size (.cells #[.int .i64 (i : Nat), .slice none 0 0] 51)).setCell (p := ⟨Rb, i, none⟩) (by show w.heap.size ≤ Rb; omega) (.pointer (some ⟨Q + i, 0, none⟩))
      have HX := Lib.hid (And.intro bP2 (And.intro hst (And.intro hch2 hB2)))
      have hz2 : (((wr.alloc (.cells #[.int .i64 (i : Nat), .slice none 0 0] 51)).setCell ⟨Rb, i, none⟩ (.pointer (some ⟨Q + i, 0, none⟩)))).heap.size = Q + (i + 1) := by simp [World.setCell, hsize]; omega
      have HZ2 := Lib.hid hz2
      have HS := Lib.hid hsize
      clear bP hown hch hown1 hst bP2 hch2 hB2 hz2 hB
      rw [hsize.symm] at HX HZ2
      clear hsize
      go_wp2
      go_roundw
      case rel =>
        obtain ⟨x1, x2, x3, x4⟩ := HX.out
        exact ⟨i + 1, by omega, by go_num, x1, x2, x3, HZ2.out, x4⟩
      case measure => simp [intOf]; omega
    · obtain rfl : i = r := by omega
      have hlt' : decide ((i : Int) < (i : Int)) = false := by rw [decide_eq_false_iff_not]; omega
      rw [Nat.sub_self, List.replicate_zero, List.append_nil] at hown
      have hpt := owns_cells hown
      have HC0 := Lib.hid hch
      clear hch hown
      go_wp2_with (first
        | (refine wpList_load_row rfl 60 _ rfl w.heap.size rfl 60 C (0, 0) _ bP Try.underlying60 rfl HSZ.out ?_)
        | (go_at_call 68; refine (HWA.out _).mono ?_; rintro e w3 ⟨ro, rc, rfl, hown3, hb3⟩))
      have hsx : wr.heap.size = Q + i := by omega
      have hM3 := hb3.size
      have hst3 : LaySt w C Rb Q i [] (fun k => k < Q ∨ wr.heap.size ≤ k ∧ k < w3.heap.size) w3 := by
        refine ⟨bP.below hb3, hpt.below hb3, ⟨fun _ => none, fun _ => 0, fun r hr => by rw [lnk_zero]; exact (HC0.out r hr).below hb3, fun r hr => by rw [lnk_zero]; exact ⟨rfl, .inl ⟨rfl, rfl⟩⟩, fun r s _ _ _ => apart_nil _, fun r hr a ha => by cases ha⟩, by omega, fun k hk => by omega, below_step hB hB.size hb3⟩
      have hwc3 := ownsK_cells hown3
      have hwl3 := owns_lt hown3
      have HPA : Hid (∀ k, (k < Q ∨ wr.heap.size ≤ k ∧ k < w3.heap.size) → k < Q ∨ Q + i ≤ k) := Lib.hid (fun k hk => by omega)
      have hwb3 : ∀ a, ro = some a → (a.block < Q ∨ wr.heap.size ≤ a.block ∧ a.block < w3.heap.size) := fun a ha => .inr (hwl3 a ha)
      have HWB := Lib.hid hwb3
      have HKQ : Hid (∀ k, k < Q → (k < Q ∨ wr.heap.size ≤ k ∧ k < w3.heap.size)) := Lib.hid (fun k hk => .inl hk)
      obtain ⟨K, hK⟩ : ∃ K : Nat → Prop, K = fun k => k < Q ∨ wr.heap.size ≤ k ∧ k < w3.heap.size := ⟨_, rfl⟩
      change Hid (∀ k, (fun k => k < Q ∨ wr.heap.size ≤ k ∧ k < w3.heap.size) k → k < Q ∨ Q + i ≤ k) at HPA
      change Hid (∀ a, ro = some a → (fun k => k < Q ∨ wr.heap.size ≤ k ∧ k < w3.heap.size) a.block) at HWB
      change Hid (∀ k, k < Q → (fun k => k < Q ∨ wr.heap.size ≤ k ∧ k < w3.heap.size) k) at HKQ
      rw [← hK] at hst3 HPA HWB HKQ
      have HE0 := Lib.hid (show edgesL g (L.take 0) = [] from rfl)
      have HEF := Lib.hid (fun j => edges_few g (L.take j) (fun x hx => by have := HWM.out x (List.mem_of_mem_take hx); omega))
      have HTS := Lib.hid (fun j (hj : j < L.length) => show edgesL g (L.take (j + 1)) = edgesL g (L.take j) ++ edgesN g (L.getD j zeroWl) (L.getD j zeroWl).long by rw [take_snoc L j zeroWl hj, edgesL_append, edgesL_one]; rfl)
      have HGM := Lib.hid (fun j (hj : j < L.length) => HWM.out (L.getD j zeroWl) (getD_mem zeroWl hj))
      have HTL := Lib.hid (show edgesL g (L.take L.length) = edgesL g L by rw [List.take_length])
      have hQ0 : w.heap.size < Q := by omega
      have HFL := Lib.hid (fun j => show (L.take j).length ≤ 72 by rw [List.length_take]; omega)
      clear hwb3 hK hown3 hwl3 hb3 hM3 hsx hsize bP hpt HC0 hB HWM
      obtain ⟨W3, hW3⟩ : ∃ W3, W3 = w3 := ⟨_, rfl⟩
      go_loopw [28] (fun vj wq => ∃ j : Nat, j ≤ L.length ∧ vj = .int .i64 j ∧ LaySt w C Rb Q i (edgesL g (L.take j)) K wq ∧ CellsAt wq ro (wlsC L)) (fun vj _ => L.length - (intOf vj).toNat)
      case atStart => exact ⟨0, Nat.zero_le _, rfl, hst3, hwc3⟩
      case round =>
        clear hst3 hwc3
        obtain ⟨j, hj, rfl, hst, hwc⟩ := hrel
        obtain ⟨wq, rfl⟩ : ∃ wq, wq = wr := ⟨_, rfl⟩
        by_cases hjl : j < L.length
        · have hjl' : decide ((j : Int) < (L.length : Int)) = true := by rw [decide_eq_true_eq]; omega
          obtain ⟨bb, off, rfl, hrg⟩ := wls_range hwc hjl
          have hfe := HEF.out j
          have hfl := HFL.out j
          have HT := Lib.hid (HTS.out j hjl)
          obtain ⟨m1, m2, m3, m4, m5⟩ := HGM.out j hjl
          have HM5 := Lib.hid m5
          generalize L.getD j zeroWl = X at *
          generalize edgesL g (L.take j) = E at *
          have hEl : E.length ≤ 432 := by omega
          clear hfe hfl m5
          have hs0 : wq.heap.size < (wq.alloc (.cells (wlC X) 94)).heap.size := by simp
          have hst2 : LaySt w C Rb Q i (E ++ edgesN g X 0) (fun k => K k ∨ k = wq.heap.size) (wq.alloc (.cells (wlC X) 94)) := by
            rw [show edgesN g X 0 = [] from rfl, List.append_nil]
            exact hst.step (below_alloc _ _) (fun k hk => by rcases hk with h' | rfl
                                                             · exact .inl h'
                                                             · exact .inr (Nat.le_refl _)) (fun k hk => by
              rcases hk with h' | rfl
              · have := hst.2.2.2.2.1 k h'; omega
              · exact hs0)
          have hwc2 := hwc.below (below_alloc wq (.cells (wlC X) 94))
          have hbX := HeldB.new wq 94 (wlC X)
          have x2 : (wq.alloc (.cells (wlC X) 94)).cell? ⟨wq.heap.size, 2, none⟩ = some (.int .i64 (X.first : Nat)) := hbX.cell 2
          have hqQ := hst.2.2.2.1
          clear hst hwc
          go_wp2_with (first
            | (refine wpList_load_wl rfl 94 _ rfl bb (off + j * 4) rfl X _ hrg Try.underlying94 rfl Try.sizeWl ?_)
            | (refine wpList_store_new rfl 94 _ _ rfl _ (wlC zeroWl) (wlC X) rfl rfl rfl (wl_size _) rfl (wlC_one _) ?_))
          obtain ⟨V, hV⟩ : ∃ V, V = wq.heap.size := ⟨_, rfl⟩
          have hVQ : Q + i ≤ V := by omega
          have HBK := Lib.hid (show ∀ k, (fun k => K k ∨ k = V) k → k < Q ∨ Q + i ≤ k from fun k hk => by
            rcases hk with h' | rfl
            · exact HPA.out k h'
            · exact .inr hVQ)
          have HBQ := Lib.hid (show ∀ k, k < Q → (fun k => K k ∨ k = V) k from fun k hk => .inl (HKQ.out k hk))
          have HBW : Hid ((fun k => K k ∨ k = V) bb) := Lib.hid (.inl (HWB.out _ rfl))
          have HBV : Hid ((fun k => K k ∨ k = V) V) := Lib.hid (.inr rfl)
          have HKM : Hid (∀ k, K k → (fun k => K k ∨ k = V) k) := Lib.hid (fun k hk => .inl hk)
          rw [← hV] at hst2 hbX
          rw [← hV]
          generalize (fun k => K k ∨ k = V) = K1 at *
          generalize wq.alloc (.cells (wlC X) 94) = W4 at *
          clear x2 hqQ hrg hs0 hV
          have HEN := Lib.hid (fun t => edgesN_succ g X t)
          go_loopw [7] (fun v7 wm => ∃ t : Nat, t ≤ X.long ∧ v7 = .int .i64 (X.first + t : Nat) ∧ LaySt w C Rb Q i (E ++ edgesN g X t) K1 wm ∧ CellsAt wm (some ⟨bb, off, none⟩) (wlsC L) ∧ HeldB wm V 94 (wlC X)) (fun v7 _ => X.first + X.long - (intOf v7).toNat)
          case atStart => exact ⟨0, Nat.zero_le _, rfl, hst2, hwc2, hbX⟩
          case round =>
            clear hst2 hwc2 hbX
            obtain ⟨t, ht, rfl, hst, hwc, hbX⟩ := hrel
            obtain ⟨wm, rfl⟩ : ∃ wm, wm = wr := ⟨_, rfl⟩
            have x0 : wm.cell? ⟨V, 0, none⟩ = some (.int .i64 (X.way : Nat)) := hbX.cell 0
            have x1 : wm.cell? ⟨V, 1, none⟩ = some (.int .i64 (X.line : Nat)) := hbX.cell 1
            have x2 : wm.cell? ⟨V, 2, none⟩ = some (.int .i64 (X.first : Nat)) := hbX.cell 2
            have x3 : wm.cell? ⟨V, 3, none⟩ = some (.int .i64 (X.long : Nat)) := hbX.cell 3
            by_cases htl : t < X.long
            · have htl' : decide (((X.first + t : Nat) : Int) < (X.first : Int) + (X.long : Int)) = true := by rw [decide_eq_true_eq]; omega
              obtain ⟨n1, n2, n3⟩ := HM5.out (X.first + t) (by omega) (by omega)
              have HAX := Lib.hid (HAC.out X.way X.line (X.first + t) m2 m3 (by omega))
              have HET := Lib.hid (HEN.out t)
              obtain ⟨at', hat⟩ : ∃ at', at' = X.first + t := ⟨_, rfl⟩
              rw [← hat] at n1 n2 n3 HAX HET htl'
              rw [← hat]
              have HAT := Lib.hid hat
              clear hat
              generalize sideA g X.way X.line at' = a at *
              generalize sideB g X.way X.line at' = b at *
              have hElt : (E ++ edgesN g X t).length ≤ 900 := by
                rw [List.length_append]; unfold edgesN; rw [List.length_map, List.length_range]; omega
              have hat9 : at' ≤ 6 := by have := HAT.out; omega
              generalize edgesN g X t = D at *
              have bP := hst.1
              go_wp2_with (first
                | (refine wpList_load_row rfl 60 _ rfl w.heap.size rfl 60 C (0, 0) _ bP Try.underlying60 rfl HSZ.out ?_)
                | (go_at_call 69; refine (HAX.out _).mono ?_; rintro e w5 ⟨rfl, hb5⟩))
              have hst5 := hst.below hb5
              have hwc5 := hwc.below hb5
              have hbX5 := hbX.below hb5
              clear hst hwc hbX x0 x1 x2 x3 bP hb5
              have HLP := Lib.hid (lay_pair w C Rb Q i (E ++ D) K1 a b hr n1 n2 n3 hElt HBK.out HBQ.out hQ0 hR2)
              have hai : (a : Int) < (i : Int) := by omega
              have hbi : (b : Int) < (i : Int) := by omega
              refine wp_region_held (S := fun w' => CellsAt w' (some ⟨Rb, 0, none⟩) (ptrs Q i)) (by kernel_rfl) ?_
              have hst6 : LaySt w C Rb Q i (E ++ D) K1 ({ w5 with drawn := w5.drawn + 1 } : World) := hst5.below (below_drewN _ w5 1)
              have hwc6 : CellsAt ({ w5 with drawn := w5.drawn + 1 } : World) (some ⟨bb, off, none⟩) (wlsC L) := hwc5
              have hbX6 : HeldB ({ w5 with drawn := w5.drawn + 1 } : World) V 94 (wlC X) := hbX5
              generalize ({ w5 with drawn := w5.drawn + 1 } : World) = W6 at *
              clear hst5 hwc5 hbX5
              have hp6 := hst6.2.1
              have HLQ := Lib.hid (HLP.out W6 hst6)
              change Go.wpAnyH Try.prog Region.Mode.any _ _ _ 9 (Array.replicate 9 false) _ _
              refine wpAnyH_take (i := 0) (v := .slice (some ⟨Rb, 0, none⟩) i i) rfl (by kernel_rfl) (by kernel_rfl) (by kernel_rfl) (fun _ _ _ h => h) (Yields.yieldsIf (Or.inl ⟨by rfl, fun w => by go_simp⟩)) hp6 ?_
              refine wpAnyH_take (i := 1) (v := .int .i64 (a : Int)) rfl (by kernel_rfl) (by kernel_rfl) (by kernel_rfl) (fun _ _ _ h => h) (Yields.yieldsIf (Or.inl ⟨by rfl, fun w => by go_simp⟩)) hp6 ?_
              refine wpAnyH_take (i := 2) (v := .pointer (some ⟨Rb, a, none⟩)) rfl (by kernel_rfl) (by kernel_rfl) (by kernel_rfl) (fun _ _ _ h => h) (Yields.yieldsIf (Or.inl ⟨by rfl, fun w => by go_simp⟩)) hp6 ?_
              refine wpAnyH_take (i := 3) (v := .pointer (some ⟨Q + a, 0, none⟩)) rfl (by kernel_rfl) (by kernel_rfl) (by kernel_rfl) (fun _ _ _ h => h) (yieldsIf_loadC (by rfl) 44 _ rfl _ (fun w' hw => by have hc := ptr_cell hw n1; go_simp)) hp6 ?_
              refine wpAnyH_take (i := 4) (v := .slice (some ⟨Rb, 0, none⟩) i i) rfl (by kernel_rfl) (by kernel_rfl) (by kernel_rfl) (fun _ _ _ h => h) (Yields.yieldsIf (Or.inl ⟨by rfl, fun w => by go_simp⟩)) hp6 ?_
              refine wpAnyH_take (i := 5) (v := .int .i64 (b : Int)) rfl (by kernel_rfl) (by kernel_rfl) (by kernel_rfl) (fun _ _ _ h => h) (Yields.yieldsIf (Or.inl ⟨by rfl, fun w => by go_simp⟩)) hp6 ?_
              refine wpAnyH_take (i := 6) (v := .pointer (some ⟨Rb, b, none⟩)) rfl (by kernel_rfl) (by kernel_rfl) (by kernel_rfl) (fun _ _ _ h => h) (Yields.yieldsIf (Or.inl ⟨by rfl, fun w => by go_simp⟩)) hp6 ?_
              refine wpAnyH_take (i := 7) (v := .pointer (some ⟨Q + b, 0, none⟩)) rfl (by kernel_rfl) (by kernel_rfl) (by kernel_rfl) (fun _ _ _ h => h) (yieldsIf_loadC (by rfl) 44 _ rfl _ (fun w' hw => by have hc := ptr_cell hw n2; go_simp)) hp6 ?_
              refine wpAnyH_all (rs := [8]) (by kernel_rfl) (by decide) ?_
              intro i1 hi1
              simp only [List.mem_cons, List.not_mem_nil, or_false] at hi1
              subst hi1
              refine wpOp_go rfl (by rfl) ?_
              unfold Oper.wp
              go_simp
              refine (HLQ.out).mono ?_
              rintro e w7 ⟨rfl, hp7, bP7, k7, h7⟩
              refine ⟨hp7, ?_⟩
              refine wpAnyH_done (by kernel_rfl) ?_ _
              have H7 := Lib.hid (h7 ({ w7 with drawn := w7.drawn + 1 } : World) rfl rfl rfl rfl)
              clear h7 HLQ HLP hst6 hp6 k7 bP7
              go_wp2
              refine wp_region_held (S := fun w' => CellsAt w' (some ⟨Rb, 0, none⟩) (ptrs Q i)) (by kernel_rfl) ?_
              have hp8 : CellsAt ({ w7 with drawn := w7.drawn + 1 } : World) (some ⟨Rb, 0, none⟩) (ptrs Q i) := hp7
              generalize ({ w7 with drawn := w7.drawn + 1 } : World) = W8 at *
              change Go.wpAnyH Try.prog Region.Mode.any _ _ _ 9 (Array.replicate 9 false) _ _
              refine wpAnyH_take (i := 0) (v := .slice (some ⟨Rb, 0, none⟩) i i) rfl (by kernel_rfl) (by kernel_rfl) (by kernel_rfl) (fun _ _ _ h => h) (Yields.yieldsIf (Or.inl ⟨by rfl, fun w => by go_simp⟩)) hp8 ?_
              refine wpAnyH_take (i := 1) (v := .int .i64 (b : Int)) rfl (by kernel_rfl) (by kernel_rfl) (by kernel_rfl) (fun _ _ _ h => h) (Yields.yieldsIf (Or.inl ⟨by rfl, fun w => by go_simp⟩)) hp8 ?_
              refine wpAnyH_take (i := 2) (v := .pointer (some ⟨Rb, b, none⟩)) rfl (by kernel_rfl) (by kernel_rfl) (by kernel_rfl) (fun _ _ _ h => h) (Yields.yieldsIf (Or.inl ⟨by rfl, fun w => by go_simp⟩)) hp8 ?_
              refine wpAnyH_take (i := 3) (v := .pointer (some ⟨Q + b, 0, none⟩)) rfl (by kernel_rfl) (by kernel_rfl) (by kernel_rfl) (fun _ _ _ h => h) (yieldsIf_loadC (by rfl) 44 _ rfl _ (fun w' hw => by have hc := ptr_cell hw n2; go_simp)) hp8 ?_
              refine wpAnyH_take (i := 4) (v := .slice (some ⟨Rb, 0, none⟩) i i) rfl (by kernel_rfl) (by kernel_rfl) (by kernel_rfl) (fun _ _ _ h => h) (Yields.yieldsIf (Or.inl ⟨by rfl, fun w => by go_simp⟩)) hp8 ?_
              refine wpAnyH_take (i := 5) (v := .int .i64 (a : Int)) rfl (by kernel_rfl) (by kernel_rfl) (by kernel_rfl) (fun _ _ _ h => h) (Yields.yieldsIf (Or.inl ⟨by rfl, fun w => by go_simp⟩)) hp8 ?_
              refine wpAnyH_take (i := 6) (v := .pointer (some ⟨Rb, a, none⟩)) rfl (by kernel_rfl) (by kernel_rfl) (by kernel_rfl) (fun _ _ _ h => h) (Yields.yieldsIf (Or.inl ⟨by rfl, fun w => by go_simp⟩)) hp8 ?_
              refine wpAnyH_take (i := 7) (v := .pointer (some ⟨Q + a, 0, none⟩)) rfl (by kernel_rfl) (by kernel_rfl) (by kernel_rfl) (fun _ _ _ h => h) (yieldsIf_loadC (by rfl) 44 _ rfl _ (fun w' hw => by have hc := ptr_cell hw n1; go_simp)) hp8 ?_
              refine wpAnyH_all (rs := [8]) (by kernel_rfl) (by decide) ?_
              intro i1 hi1
              simp only [List.mem_cons, List.not_mem_nil, or_false] at hi1
              subst hi1
              refine wpOp_go rfl (by rfl) ?_
              unfold Oper.wp
              go_simp
              refine (H7.out).mono ?_
              rintro e w9 ⟨rfl, hst9, k9⟩
              refine ⟨hst9.2.1, ?_⟩
              refine wpAnyH_done (by kernel_rfl) ?_ _
              have hwc9 := k9.cells hwc6 (fun x hx => by simp only [Option.some.injEq] at hx; subst hx; exact HBW.out)
              have hbX9 := k9.held hbX6 HBV.out
              clear hwc6 hbX6 k9 hp7 hp8 H7
              go_wp2
              go_roundw
              case rel => exact ⟨t + 1, by omega, by rw [HAT.out]; go_num, by rw [HET.out, ← List.append_assoc]; exact hst9, hwc9, hbX9⟩
              case measure => have := HAT.out; simp [intOf]; omega
            · obtain rfl : t = X.long := by omega
              have htl' : decide (((X.first + X.long : Nat) : Int) < (X.first : Int) + (X.long : Int)) = false := by rw [decide_eq_false_iff_not]; omega
              rw [← HT.out] at hst
              go_wp2
              go_roundw
              case rel => exact ⟨j + 1, by omega, by go_num, hst.step (Below.refl _ _) (fun k hk => .inl (HKM.out k hk)) (fun k hk => hst.2.2.2.2.1 k (HKM.out k hk)), hwc⟩
              case measure => simp [intOf]; omega
        · obtain rfl : j = L.length := by omega
          have hjl' : decide ((L.length : Int) < (L.length : Int)) = false := by rw [decide_eq_false_iff_not]; omega
          rw [HTL.out] at hst
          go_wp2
          go_ret
          obtain ⟨y1, y2, ⟨so, sc, y3⟩, y4, y5, y6⟩ := hst
          exact ⟨Rb, i, Q, rfl, y2, ⟨so, sc, y3.step (Below.refl _ _) (fun k hk => .inl (HKQ.out k hk))⟩, by omega, y4, y6⟩

end Go.Proofs.Ytkbgkkempooplaa

/-
  A list's rooms, linked, if it is a plan and has the rooms that are asked for. (Walks.)
-/
namespace Go.Proofs.Ytkbgkkempooplaa
open Go.RowKit

/-- whether a number is that of one of so many rooms -/
def isRm (r : Nat) (room : Int) : Bool := decide (0 ≤ room) && decide (room < (r : Int))
theorem isRm_iff {r : Nat} {room : Int} : isRm r room = true ↔ 0 ≤ room ∧ room < (r : Int) := by unfold isRm; simp

set_option maxHeartbeats 400000 in
theorem isRm_any (h wd r : Nat) (g : Nat → Nat → Nat) (room : Int) (w : World) :
    Calls Try.prog 49 #[.agg (planC h wd r g), .int .i64 room] w fun e w' => e = .returned (.bool (isRm r room)) ∧ Below w.heap.size w w' := by
  have hP := HeldB.new w 60 (planC h wd r g)
  have c2 := (hP.cell 2).trans (planC_2 _ _ _ _)
  clear hP
  generalize planC h wd r g = C at *
  by_cases h0 : 0 ≤ room
  · by_cases h1 : room < (r : Int)
    · rw [isRm_iff.2 ⟨h0, h1⟩]
      go_enter Try.func49, Try.ntmps49
      go_wp2
      go_ret
      exact ⟨by simp, below_alloc _ _⟩
    · rw [show isRm r room = false by unfold isRm; rw [decide_eq_false h1, Bool.and_false]]
      go_enter Try.func49, Try.ntmps49
      go_wp2
      go_ret
      exact ⟨by simp, below_alloc _ _⟩
  · rw [show isRm r room = false by unfold isRm; rw [decide_eq_false h0, Bool.false_and]]
    have hd0 : decide (0 ≤ room) = false := decide_eq_false h0
    go_enter Try.func49, Try.ntmps49
    go_wp2
    go_ret
    exact ⟨by simp, below_alloc _ _⟩

set_option maxRecDepth 100000 in
set_option maxHeartbeats 1000000 in
theorem noRm_any (B h wd r : Nat) (g : Nat → Nat → Nat) (room : Int) (w : World) (hB : HeldB w B 60 (planC h wd r g)) :
    Calls Try.prog 48 #[.int .i64 room, .pointer (some ⟨B, 0, none⟩)] w fun e w' => e = .returned (.bool (!isRm r room)) ∧ Below w.heap.size w w' := by
  have HR := Lib.hid (fun w => isRm_any h wd r g room w)
  have HCS := Lib.hid (planC_size h wd r g)
  generalize planC h wd r g = C at *
  have hsz : (Try.prog.info? 60).map (·.size) = some C.size := by rw [HCS.out]; kernel_rfl
  have HSZ := Lib.hid hsz; clear hsz
  go_enter Try.func48, Try.ntmps48
  go_wp2_with (first
    | (refine wpList_load_row rfl 60 _ rfl B rfl 60 C (0, 0) _ hB Try.underlying60 rfl HSZ.out ?_)
    | (go_at_call 49; refine (HR.out _).mono ?_; rintro e w1 ⟨rfl, hb1⟩))
  go_ret
  exact ⟨rfl, hb1⟩

set_option maxRecDepth 100000 in
set_option maxHeartbeats 2000000 in
theorem indexRm_any (B h wd r : Nat) (g : Nat → Nat → Nat) (ro : Option Addr) (rc : Nat) (A : List Int) (w : World) (hl : A.length ≤ 1000) (hc : CellsAt w ro (A.map (Value.int .i64))) (hB : HeldB w B 60 (planC h wd r g)) :
    Calls Try.prog 67 #[.slice ro A.length rc, .func (.func 48) #[] #[.pointer (some ⟨B, 0, none⟩)]] w
      fun e w' => (∃ v : Int, e = .returned (.int .i64 v) ∧ decide (0 ≤ v) = A.any fun a => !isRm r a) ∧ Below w.heap.size w w' := by
  have HCU := Lib.hid (fun room w hB => noRm_any B h wd r g room w hB)
  have eg := enters_of Try.func48 (by kernel_rfl) rfl
  have HC := Lib.hid hc
  have HB := Lib.hid hB
  have HAN := Lib.hid (show ∀ i, i < A.length → (!isRm r (A.getD i 0)) = true → (A.any fun a => !isRm r a) = true from fun i hi h => List.any_eq_true.2 ⟨_, getD_mem 0 hi, h⟩)
  have HAF := Lib.hid (show (∀ j, j < A.length → (!isRm r (A.getD j 0)) = false) → (A.any fun a => !isRm r a) = false from fun h => by
    rw [List.any_eq_false]
    intro x hx
    obtain ⟨j, hj, rfl⟩ := List.mem_iff_getElem.1 hx
    have := h j hj
    rw [List.getD_eq_getElem?_getD, List.getElem?_eq_getElem hj, Option.getD_some] at this
    rw [this]; decide)
  generalize (A.any fun a => !isRm r a) = R at *
  generalize hf : (fun a => !isRm r a) = f at *
  have HCU2 := Lib.hid (fun room w hB => show Calls Try.prog 48 #[.int .i64 room, .pointer (some ⟨B, 0, none⟩)] w fun e w' => e = .returned (.bool (f room)) ∧ Below w.heap.size w w' by rw [← hf]; exact HCU.out room w hB)
  have HAN2 := Lib.hid (show ∀ i, i < A.length → f (A.getD i 0) = true → R = true by rw [← hf]; exact HAN.out)
  have HAF2 := Lib.hid (show (∀ j, j < A.length → f (A.getD j 0) = false) → R = false by rw [← hf]; exact HAF.out)
  clear HCU HAN HAF hf hc hB
  generalize planC h wd r g = C at *
  go_enter Try.func67, Try.ntmps67
  go_wp2
  go_loopw [8] (fun vi wr => ∃ i : Nat, i ≤ A.length ∧ vi = .int .i64 i ∧ Hid (∀ j, j < i → f (A.getD j 0) = false) ∧ Below w.heap.size w wr) (fun vi _ => A.length - (intOf vi).toNat)
  case atStart => exact ⟨0, Nat.zero_le _, rfl, Lib.hid (fun j hj => absurd hj (Nat.not_lt_zero _)), Below.refl _ _⟩
  case round =>
    obtain ⟨i, hi, rfl, HF, hq⟩ := hrel
    by_cases hlt : i < A.length
    · have hlt' : decide ((i : Int) < (A.length : Int)) = true := by rw [decide_eq_true_eq]; omega
      obtain ⟨b, off, rfl, hck⟩ := (HC.out.below hq).int i hlt
      have hBq := HB.out.below hq
      have HY := Lib.hid (HAN2.out i hlt)
      have HNX := Lib.hid (show f (A.getD i 0) = false → ∀ j, j < i + 1 → f (A.getD j 0) = false from fun h j hj => by
        rcases Nat.lt_succ_iff_lt_or_eq.1 hj with h' | rfl
        · exact HF.out j h'
        · exact h)
      generalize A.getD i 0 = X at *
      cases hfx : f X
      · have HE := Lib.hid (HNX.out hfx)
        go_wp2_with (go_at_call 48; refine (HCU2.out _ _ hBq).mono ?_; rw [hfx]; rintro e w3 ⟨rfl, hb3⟩)
        go_roundw
        case rel => exact ⟨i + 1, by omega, by go_num, HE, below_step hq hq.size hb3⟩
        case measure => simp [intOf]; omega
      · have HE := Lib.hid (HY.out hfx)
        go_wp2_with (go_at_call 48; refine (HCU2.out _ _ hBq).mono ?_; rw [hfx]; rintro e w3 ⟨rfl, hb3⟩)
        go_ret
        exact ⟨⟨_, rfl, by rw [HE.out]; simp⟩, below_step hq hq.size hb3⟩
    · obtain rfl : i = A.length := by omega
      have hlt' : decide ((A.length : Int) < (A.length : Int)) = false := by rw [decide_eq_false_iff_not]; omega
      go_wp2
      go_ret
      exact ⟨⟨_, rfl, by rw [HAF2.out HF.out]; rfl⟩, hq⟩

set_option maxRecDepth 100000 in
set_option maxHeartbeats 1000000 in
theorem containsRm_any (B h wd r : Nat) (g : Nat → Nat → Nat) (ro : Option Addr) (rc : Nat) (A : List Int) (w : World) (hl : A.length ≤ 1000) (hc : CellsAt w ro (A.map (Value.int .i64))) (hB : HeldB w B 60 (planC h wd r g)) :
    Calls Try.prog 47 #[.slice ro A.length rc, .func (.func 48) #[] #[.pointer (some ⟨B, 0, none⟩)]] w
      fun e w' => e = .returned (.bool (A.any fun a => !isRm r a)) ∧ Below w.heap.size w w' := by
  have HI := Lib.hid (indexRm_any B h wd r g ro rc A w hl hc hB)
  generalize (A.any fun a => !isRm r a) = R at *
  clear hB hc
  go_enter Try.func47, Try.ntmps47
  go_wp2_with (go_at_call 67; refine (HI.out).mono ?_; rintro e w1 ⟨⟨v, rfl, hv⟩, hb1⟩)
  go_ret
  exact ⟨by rw [← hv]; rfl, hb1⟩

/-- a plan's rooms are linked so -/
def nbF (p : List ByteArray) : Nat → Nat → Nat := cntE (edgesL (gridG p) (wallsG p.length (wideB p) (gridG p)))
theorem nbF_eq {p : List ByteArray} (h : planB p = true) {a b : Nat} (hab : a ≠ b) : nbF p a b = besN p (a : Int) (b : Int) := cntE_walls h hab

/-- whether there are a plan and all rooms that are asked for -/
def askB (p : List ByteArray) (A : List Int) : Bool := planB p && !(A.any fun a => !isRm (gridR p) a)
/-- what linked rooms are in memory -/
def Linked (w w' : World) (p : List ByteArray) (Rb Q : Nat) : Prop :=
  CellsAt w' (some ⟨Rb, 0, none⟩) (ptrs Q (gridR p)) ∧ (∃ so sc, ChB w' Q (gridR p) (nbF p) (fun k => k < Q) so sc) ∧ w.heap.size ≤ Q ∧ Q + gridR p ≤ w'.heap.size ∧ Below w.heap.size w w'

set_option maxRecDepth 100000 in
set_option maxHeartbeats 2000000 in
theorem readChambers_no (ao : Option Addr) (cap : Nat) (p : List ByteArray) (so : Option Addr) (sc : Nat) (A : List Int) (w : World) (hl : p.length ≤ 1048576) (hs : ∀ s ∈ p, s.size ≤ 1048576) (hc : CellsAt w ao (p.map Value.string)) (hA : A.length ≤ 1000) (ha : CellsAt w so (A.map (Value.int .i64)))
    (hno : askB p A = false) :
    Calls Try.prog 28 #[.slice ao p.length cap, .slice so A.length sc] w
      fun e w' => e = .returned (.tuple #[.slice none 0 0, .bool false]) ∧ Below w.heap.size w w' := by
  have HRP := Lib.hid (show Calls Try.prog 36 #[.slice ao p.length cap] w _ by have := readPlan_any ao cap p w hl hs hc; rw [readC_plan, readOk_eq] at this; exact this)
  have HPS := Lib.hid (plan_size (planH p) (planW p) (planR p) (planG p))
  have HP1 := Lib.hid (planC_one (planH p) (planW p) (planR p) (planG p))
  have HCS := Lib.hid (planC_size (planH p) (planW p) (planR p) (planG p))
  cases hp : planB p
  · rw [hp] at HRP
    clear hno
    generalize planC (planH p) (planW p) (planR p) (planG p) = C at *
    go_enter Try.func28, Try.ntmps28
    go_wp2_with (first
      | (refine wpList_alloc_zero rfl 60 rfl zeroC zero_plan ?_)
      | (refine wpList_store_new rfl 60 _ _ rfl _ zeroC C rfl rfl rfl HPS.out (by rw [HCS.out]; rfl) HP1.out ?_)
      | (go_at_call 36; refine (HRP.out).mono ?_; rintro e w1 ⟨rfl, hb1⟩))
    go_ret2
    exact ⟨rfl, hb1.alloc hb1.size _⟩
  · rw [hp] at HRP
    have hR : (A.any fun a => !isRm (planR p) a) = true := by
      unfold askB at hno
      rw [hp, Bool.true_and] at hno
      unfold planR; rw [if_pos hp]; simpa using hno
    have HCO := Lib.hid (fun (W : World) (B : Nat) (hB : HeldB W B 60 (planC (planH p) (planW p) (planR p) (planG p))) (hb : Below w.heap.size w W) => containsRm_any B (planH p) (planW p) (planR p) (planG p) so sc A W hA (ha.below hb) hB)
    rw [hR] at HCO
    clear hno hR
    generalize planC (planH p) (planW p) (planR p) (planG p) = C at *
    go_enter Try.func28, Try.ntmps28
    go_wp2_with (first
      | (refine wpList_alloc_zero rfl 60 rfl zeroC zero_plan ?_)
      | (refine wpList_store_new rfl 60 _ _ rfl _ zeroC C rfl rfl rfl HPS.out (by rw [HCS.out]; rfl) HP1.out ?_)
      | (go_at_call 36; refine (HRP.out).mono ?_; rintro e w1 ⟨rfl, hb1⟩; have hb2 : Below w.heap.size w (w1.alloc (.cells C 60)) := hb1.alloc hb1.size _; have bP := HeldB.new w1 60 C)
      | (go_at_call 47; refine (HCO.out _ _ bP hb2).mono ?_; rintro e w3 ⟨rfl, hb3⟩))
    go_ret2
    exact ⟨rfl, below_step hb2 hb2.size hb3⟩

set_option maxRecDepth 100000 in
set_option maxHeartbeats 2000000 in
theorem readChambers_yes (ao : Option Addr) (cap : Nat) (p : List ByteArray) (so : Option Addr) (sc : Nat) (A : List Int) (w : World) (hl : p.length ≤ 1048576) (hs : ∀ s ∈ p, s.size ≤ 1048576) (hc : CellsAt w ao (p.map Value.string)) (hA : A.length ≤ 1000) (ha : CellsAt w so (A.map (Value.int .i64)))
    (hyes : askB p A = true) :
    Calls Try.prog 28 #[.slice ao p.length cap, .slice so A.length sc] w
      fun e w' => ∃ Rb c Q, e = .returned (.tuple #[.slice (some ⟨Rb, 0, none⟩) (gridR p) c, .bool true]) ∧ Linked w w' p Rb Q := by
  have HRP := Lib.hid (show Calls Try.prog 36 #[.slice ao p.length cap] w _ by have := readPlan_any ao cap p w hl hs hc; rw [readC_plan, readOk_eq] at this; exact this)
  have HPS := Lib.hid (plan_size (planH p) (planW p) (planR p) (planG p))
  have HP1 := Lib.hid (planC_one (planH p) (planW p) (planR p) (planG p))
  have HCS := Lib.hid (planC_size (planH p) (planW p) (planR p) (planG p))
  unfold askB at hyes
  rw [Bool.and_eq_true] at hyes
  obtain ⟨hp, hR⟩ := hyes
  have hR : (A.any fun a => !isRm (planR p) a) = false := by unfold planR; rw [if_pos hp]; simpa using hR
  rw [hp] at HRP
  have HCO := Lib.hid (fun (W : World) (B : Nat) (hB : HeldB W B 60 (planC (planH p) (planW p) (planR p) (planG p))) (hb : Below w.heap.size w W) => containsRm_any B (planH p) (planW p) (planR p) (planG p) so sc A W hA (ha.below hb) hB)
  rw [hR] at HCO
  have hP := planP_of hp
  have h6 := hP.grid.h6; have w6 := hP.grid.w6
  have e1 : planH p = p.length := by unfold planH; rw [if_pos hp]
  have e2 : planW p = wideB p := by unfold planW; rw [if_pos hp]
  have e3 : planR p = gridR p := by unfold planR; rw [if_pos hp]
  have e4 : planG p = gridG p := by unfold planG; rw [if_pos hp]
  rw [e1, e2, e3, e4] at HRP HPS HP1 HCS HCO
  have HCH := Lib.hid (fun (W : World) => chambers_any p.length (wideB p) (gridR p) (gridG p) W h6 w6 hP.few (fun i j hi hj => by rw [← hP.mark i j hi hj]; exact hP.lt hi hj))
  clear e1 e2 e3 e4 h6 w6 hP
  unfold Linked nbF
  generalize planC p.length (wideB p) (gridR p) (gridG p) = C at *
  generalize cntE (edgesL (gridG p) (wallsG p.length (wideB p) (gridG p))) = F at *
  generalize gridR p = n at *
  clear hR
  go_enter Try.func28, Try.ntmps28
  go_wp2_with (first
    | (refine wpList_alloc_zero rfl 60 rfl zeroC zero_plan ?_)
    | (refine wpList_store_new rfl 60 _ _ rfl _ zeroC C rfl rfl rfl HPS.out (by rw [HCS.out]; rfl) HP1.out ?_)
    | (refine wpList_load_row rfl 60 _ rfl w1.heap.size rfl 60 C (0, 0) _ bP3 Try.underlying60 rfl HPS.out ?_)
    | (go_at_call 36; refine (HRP.out).mono ?_; rintro e w1 ⟨rfl, hb1⟩; have hb2 : Below w.heap.size w (w1.alloc (.cells C 60)) := hb1.alloc hb1.size _; have bP := HeldB.new w1 60 C)
    | (go_at_call 47; refine (HCO.out _ _ bP hb2).mono ?_; rintro e w3 ⟨rfl, hb3⟩; have bP3 := bP.below hb3; have hb4 := below_step hb2 hb2.size hb3)
    | (go_at_call 50; refine (HCH.out _).mono ?_; rintro e w5 ⟨Rb, c, Q, rfl, y1, y2, y3, y4, y5⟩))
  go_ret2
  exact ⟨Rb, c, Q, rfl, y1, y2, Nat.le_trans hb4.size y3, y4, below_step hb4 hb4.size y5⟩

end Go.Proofs.Ytkbgkkempooplaa

/-
  Along how many cells two rooms lie beside each other, and whether they are neighbours: the program's answers. (Walks.)
-/
namespace Go.Proofs.Ytkbgkkempooplaa
open Go.RowKit

theorem given_isRm (p : List ByteArray) (a : Int) : givenB p a = (planB p && isRm (gridR p) a) := by
  unfold givenB
  cases hp : planB p
  · rfl
  · have := (planP_of hp).rooms
    rw [this, Bool.true_and, Bool.true_and, Bool.eq_iff_iff, isRm_iff]
    unfold l6B
    rw [decide_eq_true_eq]; omega

set_option maxRecDepth 100000 in
set_option maxHeartbeats 1000000 in
theorem along_any (Q n a b : Nat) (f : Nat → Nat → Nat) (K : Nat → Prop) (so : Nat → Option Addr) (sc : Nat → Nat) (w : World) (hn : n ≤ 9) (ha : a < n) (hb : b < n) (h : ChB w Q n f K so sc) :
    Calls Try.prog 29 #[.pointer (some ⟨Q + a, 0, none⟩), .int .i64 b] w
      fun e w' => e = .returned (.int .i64 (f a b : Nat)) ∧ Below w.heap.size w w' := by
  have HFI := Lib.hid (find_any Q n a b f K so sc w hn ha hb h)
  by_cases hpos : 0 < f a b
  · obtain ⟨h1, h2⟩ := lnk_there hb (f a) hpos
    rw [decide_eq_true hpos] at HFI
    have hrow0 := h.2.1 a ha
    obtain ⟨g, hso, hg1, hg2⟩ := row_some hrow0 (by omega)
    have HCE := Lib.hid (fun (w1 : World) (hw : Below w.heap.size w w1) => by
      have hA := (h.below hw)
      have hr := hA.2.1 a ha
      rw [hso] at hr
      have e1 : w1.cell? ⟨g, lnkAt b (f a) * 2 + 1, none⟩ = some (.int .i64 (f a b : Nat)) := by
        rw [hr.cellAt _ (by omega), lnkC_at Q _ _ 1 h1 (by omega), h2]; rfl
      have e3 : w1.cell? ⟨Q + a, 1, none⟩ = some (.slice (some ⟨g, 0, none⟩) (lnk n (f a)).length (sc a)) := by rw [(hA.1 a ha).cell 1, ← hso]; rfl
      exact And.intro e1 e3)
    clear h hrow0 h2 hso
    generalize (lnk n (f a)).length = len at *
    generalize lnkAt b (f a) = i at *
    generalize f a b = m at *
    generalize sc a = ca at *
    have hil : (i : Int) < (len : Int) := by omega
    go_enter Try.func29, Try.ntmps29
    go_wp2_with (go_at_call 51; refine (HFI.out).mono ?_; rintro e w1 ⟨rfl, hb1⟩; obtain ⟨e1, e3⟩ := HCE.out w1 hb1)
    go_ret
    exact ⟨rfl, hb1⟩
  · have hz : f a b = 0 := by omega
    rw [decide_eq_false hpos] at HFI
    rw [hz]
    clear h hz hpos
    generalize lnkAt b (f a) = i at *
    go_enter Try.func29, Try.ntmps29
    go_wp2_with (go_at_call 51; refine (HFI.out).mono ?_; rintro e w1 ⟨rfl, hb1⟩)
    go_ret
    exact ⟨rfl, hb1⟩

set_option maxRecDepth 100000 in
set_option maxHeartbeats 2000000 in
theorem implNearLength_any (ao : Option Addr) (cap : Nat) (p : List ByteArray) (a b : Int) (w : World) (hl : p.length ≤ 1048576) (hs : ∀ s ∈ p, s.size ≤ 1048576) (hc : CellsAt w ao (p.map Value.string)) :
    Calls Try.prog 10 #[.slice ao p.length cap, .int .i64 a, .int .i64 b] w fun e w' => e = .returned (.tuple #[.int .i64 (nlenN p a b : Nat), .bool (nlenOk p a b)]) ∧ Below w.heap.size w w' := by
  have hlit : CellsAt (w.alloc (.cells #[.int .i64 a, .int .i64 b] 3)) (some ⟨w.heap.size, 0, none⟩) ([a, b].map (Value.int .i64)) := CellsAt.alloc_lit w [.int .i64 a, .int .i64 b] 3
  have hcl := hc.below (below_alloc w (.cells #[.int .i64 a, .int .i64 b] 3))
  have hbl := below_alloc w (.cells #[.int .i64 a, .int .i64 b] 3)
  have hask : askB p [a, b] = (givenB p a && givenB p b) := by
    rw [given_isRm, given_isRm]
    unfold askB
    cases planB p
    · rfl
    · simp only [List.any_cons, List.any_nil]
      cases isRm (gridR p) a <;> cases isRm (gridR p) b <;> rfl
  cases hq : askB p [a, b]
  · have h0 : nlenOk p a b = false := by
      unfold nlenOk; rw [← Bool.and_assoc, ← hask, hq]; rfl
    have h1 : nlenN p a b = 0 := by unfold nlenN; rw [h0]; rfl
    have HR := Lib.hid (readChambers_no ao cap p _ 2 [a, b] _ hl hs hcl (by simp) hlit hq)
    rw [h0, h1]
    clear h0 h1 hask hq hlit hcl
    go_enter Try.func10, Try.ntmps10
    go_wp2_with (go_at_call 28; refine (HR.out).mono ?_; rintro e w1 ⟨rfl, hb1⟩)
    go_ret2
    exact ⟨rfl, hbl.trans (hb1.mono (by simp))⟩
  · have HR := Lib.hid (readChambers_yes ao cap p _ 2 [a, b] _ hl hs hcl (by simp) hlit hq)
    rw [hask, Bool.and_eq_true] at hq
    obtain ⟨qa, qb⟩ := hq
    have hp : planB p = true := by rw [given_isRm, Bool.and_eq_true] at qa; exact qa.1
    have ra := qa; have rb := qb
    rw [given_isRm, hp, Bool.true_and, isRm_iff] at ra rb
    have hn9 := (planP_of hp).few
    cases he : (a == b)
    · have hne : a ≠ b := by rw [beq_eq_false_iff_ne] at he; exact he
      have h0 : nlenOk p a b = true := by unfold nlenOk; rw [qa, qb, he]; rfl
      obtain ⟨a', rfl⟩ : ∃ a' : Nat, a = (a' : Int) := ⟨a.toNat, by omega⟩
      obtain ⟨b', rfl⟩ : ∃ b' : Nat, b = (b' : Int) := ⟨b.toNat, by omega⟩
      have h1 : nlenN p a' b' = nbF p a' b' := by unfold nlenN; rw [h0, nbF_eq hp (by omega)]; rfl
      rw [h0, h1]
      have ha' : a' < gridR p := by omega
      have hb' : b' < gridR p := by omega
      have HAL := Lib.hid (fun (W : World) (Q : Nat) so sc (h : ChB W Q (gridR p) (nbF p) (fun k => k < Q) so sc) => along_any Q (gridR p) a' b' (nbF p) _ so sc W hn9 ha' hb' h)
      unfold Linked at HR
      clear h0 h1 hask hlit hcl hn9 qa qb
      generalize nbF p = f at *
      generalize gridR p = n at *
      go_enter Try.func10, Try.ntmps10
      go_wp2_with (first
        | (go_at_call 28; refine (HR.out).mono ?_; rintro e w1 ⟨Rb, c, Q, rfl, y1, ⟨so, sc, y2⟩, y3, y4, y5⟩; have hpc := ptr_cell y1 ha'; have HAL2 := Lib.hid (HAL.out w1 Q so sc y2); clear y1 y2)
        | (go_at_call 29; refine (HAL2.out).mono ?_; rintro e w2 ⟨rfl, hb2⟩))
      go_ret2
      exact ⟨rfl, below_step (hbl.trans (y5.mono (by simp))) (by have := y5.size; simp at this; omega) hb2⟩
    · have h0 : nlenOk p a b = false := by unfold nlenOk; rw [qa, qb, he]; rfl
      have h1 : nlenN p a b = 0 := by unfold nlenN; rw [h0]; rfl
      rw [h0, h1]
      unfold Linked at HR
      clear h0 h1 hask hlit hcl hn9 qa qb
      go_enter Try.func10, Try.ntmps10
      go_wp2_with (go_at_call 28; refine (HR.out).mono ?_; rintro e w1 ⟨Rb, c, Q, rfl, y1, y2, y3, y4, y5⟩; clear y1 y2)
      go_ret2
      exact ⟨rfl, hbl.trans (y5.mono (by simp))⟩

theorem nearIs_len (p : List ByteArray) (a b : Int) : nearIs p a b = (nlenOk p a b && decide (0 < nlenN p a b)) := by
  unfold nearIs nlenN nlenOk
  cases givenB p a
  · rfl
  · cases givenB p b
    · rfl
    · by_cases he : a = b
      · have : besN p a b = 0 := if_pos he
        rw [this]; simp
      · have : (a == b) = false := by rw [beq_eq_false_iff_ne]; exact he
        rw [this]; rfl
theorem nlenN_le (p : List ByteArray) (a b : Int) : nlenN p a b ≤ 60 := by
  unfold nlenN
  split
  · rename_i h
    unfold nlenOk at h
    rw [Bool.and_eq_true] at h
    exact besN_le (given_grid h.1) a b
  · omega

set_option maxRecDepth 100000 in
set_option maxHeartbeats 1000000 in
theorem implNearIs_any (ao : Option Addr) (cap : Nat) (p : List ByteArray) (a b : Int) (w : World) (hl : p.length ≤ 1048576) (hs : ∀ s ∈ p, s.size ≤ 1048576) (hc : CellsAt w ao (p.map Value.string)) :
    Calls Try.prog 8 #[.slice ao p.length cap, .int .i64 a, .int .i64 b] w fun e w' => e = .returned (.bool (nearIs p a b)) ∧ Below w.heap.size w w' := by
  have HL := Lib.hid (implNearLength_any ao cap p a b w hl hs hc)
  rw [nearIs_len]
  clear hl hs hc
  generalize nlenOk p a b = ok at *
  generalize nlenN p a b = n at *
  have hz : decide ((0 : Int) < (n : Int)) = decide (0 < n) := by congr 1; rw [eq_iff_iff]; omega
  cases ok
  · go_enter Try.func8, Try.ntmps8
    go_wp2_with (go_at_call 10; refine (HL.out).mono ?_; rintro e w1 ⟨rfl, hb1⟩)
    go_ret
    exact ⟨rfl, hb1⟩
  · cases hn : decide (0 < n)
    · rw [hn] at hz
      go_enter Try.func8, Try.ntmps8
      go_wp2_with (go_at_call 10; refine (HL.out).mono ?_; rintro e w1 ⟨rfl, hb1⟩)
      go_ret
      exact ⟨by simp, hb1⟩
    · rw [hn] at hz
      go_enter Try.func8, Try.ntmps8
      go_wp2_with (go_at_call 10; refine (HL.out).mono ?_; rintro e w1 ⟨rfl, hb1⟩)
      go_ret
      exact ⟨by simp, hb1⟩

end Go.Proofs.Ytkbgkkempooplaa
