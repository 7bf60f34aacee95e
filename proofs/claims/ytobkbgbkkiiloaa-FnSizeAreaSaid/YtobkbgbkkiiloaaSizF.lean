
/-
  What the laws of sizes ask. (Plain mathematics.)
-/
import Derived.Test.YtobkbgbkkiiloaaSizY
import Derived.Test.YtobkbgbkkiiloaaOrdJ
namespace Go.Proofs.Ytobkbgbkkiiloaa

/-- the sum of the first ones that are asked for -/
def totF (d : Nat → Nat) (P : Nat → Bool) : Nat → Nat
  | 0 => 0
  | i + 1 => totF d P i + (if P i = true then d i else 0)
theorem totF_succ (d : Nat → Nat) (P : Nat → Bool) (i : Nat) : totF d P (i + 1) = totF d P i + (if P i = true then d i else 0) := rfl
theorem totF_mono {d : Nat → Nat} {P P' : Nat → Bool} (h : ∀ a, P a = true → P' a = true) : ∀ i, totF d P i ≤ totF d P' i
  | 0 => Nat.le_refl _
  | i + 1 => by
    have := totF_mono (d := d) h i
    unfold totF
    cases e : P i
    · simp only [Bool.false_eq_true, if_false]; omega
    · rw [h i e]; simp only [if_true]; omega
theorem totF_more {d : Nat → Nat} {P P' : Nat → Bool} (h : ∀ a, P a = true → P' a = true) {b : Nat} (h1 : P b = false) (h2 : P' b = true) : ∀ i, b < i → totF d P i + d b ≤ totF d P' i
  | 0, hb => by omega
  | i + 1, hb => by
    unfold totF
    by_cases e : b = i
    · subst e
      rw [h1, h2]
      have := totF_mono (d := d) h b
      simp only [Bool.false_eq_true, if_false, if_true]; omega
    · have := totF_more (d := d) h h1 h2 i (by omega)
      cases e : P i
      · simp only [Bool.false_eq_true, if_false]; omega
      · rw [h i e]; simp only [if_true]; omega
theorem totF_all (d : Nat → Nat) : ∀ i, totF d (fun _ => true) i = ((List.range i).map d).sum
  | 0 => rfl
  | i + 1 => by
    unfold totF
    rw [totF_all d i, List.range_succ, List.map_append, List.sum_append]
    simp

/-- sums of rooms of a kind that is kept from behind -/
theorem Goes.sum_tot {f q : Nat → Nat → Bool} {r : Nat} {d : Nat → Nat} (G : Goes f q r) (C : Nat → Bool) (hC : ∀ b, b < r → C b = true → sumS f d r b = 0 ∨ ∃ a, a < r ∧ C a = true ∧ f a b = true ∧ sumS f d r b = sumS f d r a + d a) :
    ∀ n b, b < r → C b = true → placeN q r b ≤ n → sumS f d r b + d b ≤ totF d (fun a => C a && decide (placeN q r a ≤ placeN q r b)) r
  | n, b, hb, hc, hn => by
    have one : d b ≤ totF d (fun a => C a && decide (placeN q r a ≤ placeN q r b)) r := by
      have := totF_more (d := d) (P := fun _ => false) (P' := fun a => C a && decide (placeN q r a ≤ placeN q r b)) (fun a h => by cases h) (b := b) rfl (by simp [hc]) r hb
      omega
    rcases hC b hb hc with h0 | ⟨a, ha, hca, hf, he⟩
    · omega
    · have hr := G.rank hf
      match n, hn with
      | 0, hn => omega
      | n + 1, hn =>
        have h1 := G.sum_tot C hC n a ha hca (by omega)
        have h2 := totF_more (d := d) (P := fun x => C x && decide (placeN q r x ≤ placeN q r a)) (P' := fun x => C x && decide (placeN q r x ≤ placeN q r b)) (fun x h => by
          rw [Bool.and_eq_true, decide_eq_true_eq] at h ⊢
          exact ⟨h.1, by omega⟩) (b := b) (by rw [Bool.and_eq_false_iff]; exact .inr (decide_eq_false (by omega))) (by rw [hc]; simp) r hb
        omega
theorem Goes.sum_kind {f q : Nat → Nat → Bool} {r : Nat} {d : Nat → Nat} (G : Goes f q r) (C : Nat → Bool) (hC : ∀ b, b < r → C b = true → sumS f d r b = 0 ∨ ∃ a, a < r ∧ C a = true ∧ f a b = true ∧ sumS f d r b = sumS f d r a + d a) {b : Nat} (hb : b < r) (hc : C b = true) :
    sumS f d r b + d b ≤ totF d C r :=
  Nat.le_trans (G.sum_tot C hC _ b hb hc (Nat.le_refl _)) (totF_mono (fun a h => by rw [Bool.and_eq_true] at h; exact h.1) r)
theorem Goes.end_total {f q : Nat → Nat → Bool} {r : Nat} {d : Nat → Nat} (G : Goes f q r) : endS f d r ≤ totF d (fun _ => true) r := by
  refine (eM_le r).2 fun a ha => G.sum_kind (fun _ => true) (fun b hb _ => ?_) ha rfl
  rcases G.sum_some (d := d) hb with h | ⟨a, h1, h2, h3⟩
  · exact .inl h
  · exact .inr ⟨a, h1, rfl, h2, h3⟩
theorem end_each {f : Nat → Nat → Bool} {r a : Nat} {d : Nat → Nat} (ha : a < r) : sumS f d r a + d a ≤ endS f d r := (eM_le (v := fun a => sumS f d r a + d a) r).1 (Nat.le_refl _) a ha
theorem end_some {f : Nat → Nat → Bool} {r : Nat} {d : Nat → Nat} (hr : 1 ≤ r) (hd : ∀ a, a < r → 1 ≤ d a) : ∃ a, a < r ∧ endS f d r = sumS f d r a + d a := by
  rcases Nat.eq_zero_or_pos (endS f d r) with h0 | h0
  · have := end_each (f := f) (d := d) (a := 0) (r := r) (by omega)
    have := hd 0 (by omega)
    omega
  · apply Classical.byContradiction
    intro hn
    have : endS f d r ≤ endS f d r - 1 := (eM_le (v := fun a => sumS f d r a + d a) r).2 fun a ha => by
      have h1 := end_each (f := f) (d := d) ha
      have h2 : endS f d r ≠ sumS f d r a + d a := fun e => hn ⟨a, ha, e⟩
      show sumS f d r a + d a ≤ _
      omega
    omega

/-! ## rooms that all need one -/
theorem Goes.ones_path {f q : Nat → Nat → Bool} {r : Nat} (G : Goes f q r) : ∀ n b, b < r → sumS f (fun _ => 1) r b = n → ∃ c, Pth f r n c b
  | 0, b, hb, _ => ⟨b, rfl, hb⟩
  | n + 1, b, hb, h => by
    rcases G.sum_some (d := fun _ => 1) hb with h0 | ⟨a, ha, hf, he⟩
    · omega
    · obtain ⟨c, hc⟩ := G.ones_path n a ha (by omega)
      exact ⟨c, a, hc, hf, hb⟩
theorem Goes.path_ones {f q : Nat → Nat → Bool} {r : Nat} (G : Goes f q r) : ∀ {n c b}, Pth f r n c b → n ≤ sumS f (fun _ => 1) r b
  | 0, _, _, _ => Nat.zero_le _
  | n + 1, c, b, ⟨a, h1, h2, h3⟩ => by
    have := G.path_ones h1
    have := G.sum_up (d := fun _ => 1) h2
    omega
theorem Goes.ones_hi {f q : Nat → Nat → Bool} {r b : Nat} (G : Goes f q r) (hb : b < r) : sumS f (fun _ => 1) r b = hiM f r b := by
  apply Nat.le_antisymm
  · exact (G.hi hb).2 (G.ones_path _ b hb rfl)
  · obtain ⟨c, hc⟩ := (G.hi hb).1 (Nat.le_refl _)
    exact G.path_ones hc
theorem Goes.ones_long {f q : Nat → Nat → Bool} {r : Nat} (G : Goes f q r) : endS f (fun _ => 1) r = lonQ f q r := by
  apply nat_ext
  intro n
  rw [G.long]
  constructor
  · intro h
    apply Classical.byContradiction
    intro hn
    have : endS f (fun _ => 1) r ≤ n := (eM_le (v := fun a => sumS f (fun _ => 1) r a + 1) r).2 fun a ha => by
      show sumS f (fun _ => 1) r a + 1 ≤ n
      rw [G.ones_hi ha]
      rcases Nat.lt_or_ge (hiM f r a) n with h1 | h1
      · omega
      · obtain ⟨c, hc⟩ := (G.hi ha).1 h1
        exact absurd ⟨c, a, hc⟩ hn
    omega
  · rintro ⟨a, b, h⟩
    have h1 := G.path_ones h
    have h2 := end_each (f := f) (d := fun _ => 1) h.lt.2
    have h3 : sumS f (fun _ => 1) r b + 1 ≤ endS f (fun _ => 1) r := h2
    omega
theorem Goes.ones_le {f q : Nat → Nat → Bool} {r : Nat} {d : Nat → Nat} (G : Goes f q r) (hd : ∀ a, a < r → 1 ≤ d a) : ∀ n b, b < r → sumS f (fun _ => 1) r b = n → n ≤ sumS f d r b
  | 0, _, _, _ => Nat.zero_le _
  | n + 1, b, hb, h => by
    rcases G.sum_some (d := fun _ => 1) hb with h0 | ⟨a, ha, hf, he⟩
    · omega
    · have h1 := G.ones_le hd n a ha (by omega)
      have h2 := G.sum_up (d := d) hf
      have h3 := hd a ha
      omega
theorem Goes.ones_end {f q : Nat → Nat → Bool} {r : Nat} {d : Nat → Nat} (G : Goes f q r) (hd : ∀ a, a < r → 1 ≤ d a) : endS f (fun _ => 1) r ≤ endS f d r :=
  (eM_le (v := fun a => sumS f (fun _ => 1) r a + 1) r).2 fun a ha => by
    have h1 := G.ones_le hd _ a ha rfl
    have h2 := end_each (f := f) (d := d) ha
    have h3 := hd a ha
    show sumS f (fun _ => 1) r a + 1 ≤ _
    omega

/-! ## rooms without slack -/
theorem Goes.slack_total {f q : Nat → Nat → Bool} {r : Nat} {d : Nat → Nat} (G : Goes f q r) (hr : 1 ≤ r) (hd : ∀ a, a < r → 1 ≤ d a) : endS f d r ≤ totF d (fun a => decide (slN f d r a = 0)) r := by
  obtain ⟨e, he, ee⟩ := end_some (f := f) hr hd
  have thru : ∀ a, a < r → sumS f d r a + d a + sumS (flipQ f) d r a ≤ endS f d r := fun a ha => thru_le G r a ha
  rw [ee]
  refine G.sum_kind _ (fun b hb hc => ?_) he (by
    rw [decide_eq_true_eq]; unfold slN; omega)
  rw [decide_eq_true_eq] at hc
  rcases G.sum_some (d := d) hb with h | ⟨a, h1, h2, h3⟩
  · exact .inl h
  · refine .inr ⟨a, h1, ?_, h2, h3⟩
    rw [decide_eq_true_eq]
    have k1 := G.flip.sum_up (d := d) (show flipQ f b a = true from h2)
    have k2 := thru a h1
    have k3 := thru b hb
    unfold slN at hc ⊢
    omega

/-! ## rooms side by side -/
theorem rooms_pack {f0 f1 : Nat → Nat → Bool} {q : Nat → Nat → Bool} {r : Nat} {d0 d1 : Nat → Nat} (G0 : Goes f0 q r) (G1 : Goes f1 q r) (h2 : ∀ a b, a < r → b < r → a ≠ b → f0 a b = true ∨ f0 b a = true ∨ f1 a b = true ∨ f1 b a = true) :
    ((List.range r).map fun a => d0 a * d1 a).sum ≤ endS f0 d0 r * endS f1 d1 r := by
  have key : ((List.range r).flatMap fun a => (List.range (d0 a * d1 a)).map fun k => (sumS f0 d0 r a + k / d1 a) * endS f1 d1 r + (sumS f1 d1 r a + k % d1 a)).length ≤ endS f0 d0 r * endS f1 d1 r := by
    have parts : ∀ a, a < r → ∀ k, k < d0 a * d1 a → k / d1 a < d0 a ∧ k % d1 a < d1 a := fun a _ k hk => by
      have h0 : 0 < d1 a := by
        rcases Nat.eq_zero_or_pos (d1 a) with h | h
        · rw [h, Nat.mul_zero] at hk; omega
        · exact h
      exact ⟨(Nat.div_lt_iff_lt_mul h0).2 hk, Nat.mod_lt _ h0⟩
    have put : ∀ (X x y H : Nat), y < H → (x * H + y = X → X / H = x ∧ X % H = y) := fun X x y H hy e => by
      subst e
      constructor
      · rw [Nat.mul_comm, Nat.mul_add_div (by omega), Nat.div_eq_of_lt hy]; rfl
      · rw [Nat.mul_comm, Nat.mul_add_mod, Nat.mod_eq_of_lt hy]
    refine nodup_lt _ _ ?_ ?_
    · unfold List.Nodup
      rw [List.pairwise_flatMap]
      refine ⟨fun a ha => ?_, ?_⟩
      · have ha := List.mem_range.1 ha
        rw [List.pairwise_map]
        refine List.Pairwise.imp_of_mem ?_ List.pairwise_lt_range
        intro x y hx hy hxy e
        have hx := List.mem_range.1 hx
        have hy := List.mem_range.1 hy
        have p1 := parts a ha x hx
        have p2 := parts a ha y hy
        have e1 := end_each (f := f1) (d := d1) ha
        have r1 := put ((sumS f0 d0 r a + x / d1 a) * endS f1 d1 r + (sumS f1 d1 r a + x % d1 a)) (sumS f0 d0 r a + x / d1 a) (sumS f1 d1 r a + x % d1 a) (endS f1 d1 r) (by omega) rfl
        have r2 := put ((sumS f0 d0 r a + y / d1 a) * endS f1 d1 r + (sumS f1 d1 r a + y % d1 a)) (sumS f0 d0 r a + y / d1 a) (sumS f1 d1 r a + y % d1 a) (endS f1 d1 r) (by omega) rfl
        rw [e] at r1
        have d1x := Nat.div_add_mod x (d1 a)
        have d1y := Nat.div_add_mod y (d1 a)
        have ex : x / d1 a = y / d1 a := by omega
        have em : x % d1 a = y % d1 a := by omega
        rw [ex, em] at d1x
        omega
      · refine List.Pairwise.imp_of_mem ?_ List.pairwise_lt_range
        intro a b ha hb hab u hu v hv e
        have ha := List.mem_range.1 ha
        have hb := List.mem_range.1 hb
        obtain ⟨x, hx, rfl⟩ := List.mem_map.1 hu
        obtain ⟨y, hy, hv⟩ := List.mem_map.1 hv
        have hx := List.mem_range.1 hx
        have hy := List.mem_range.1 hy
        have p1 := parts a ha x hx
        have p2 := parts b hb y hy
        have e1 := end_each (f := f1) (d := d1) ha
        have e2 := end_each (f := f1) (d := d1) hb
        have r1 := put ((sumS f0 d0 r a + x / d1 a) * endS f1 d1 r + (sumS f1 d1 r a + x % d1 a)) (sumS f0 d0 r a + x / d1 a) (sumS f1 d1 r a + x % d1 a) (endS f1 d1 r) (by omega) rfl
        have r2 := put ((sumS f0 d0 r b + y / d1 b) * endS f1 d1 r + (sumS f1 d1 r b + y % d1 b)) (sumS f0 d0 r b + y / d1 b) (sumS f1 d1 r b + y % d1 b) (endS f1 d1 r) (by omega) rfl
        rw [e, ← hv] at r1
        have q1 := r1.1.symm.trans r2.1
        have q2 := r1.2.symm.trans r2.2
        clear r1 r2
        generalize x / d1 a = xa at *
        generalize y / d1 b = yb at *
        generalize x % d1 a = xm at *
        generalize y % d1 b = ym at *
        rcases h2 a b ha hb (by omega) with h | h | h | h
        · have := G0.sum_up (d := d0) h; omega
        · have := G0.sum_up (d := d0) h; omega
        · have := G1.sum_up (d := d1) h; omega
        · have := G1.sum_up (d := d1) h; omega
    · intro z hz
      obtain ⟨a, ha, hz⟩ := List.mem_flatMap.1 hz
      obtain ⟨k, hk, rfl⟩ := List.mem_map.1 hz
      have ha := List.mem_range.1 ha
      have hk := List.mem_range.1 hk
      have p1 := parts a ha k hk
      have e0 := end_each (f := f0) (d := d0) ha
      have e1 := end_each (f := f1) (d := d1) ha
      have : (sumS f0 d0 r a + k / d1 a + 1) * endS f1 d1 r ≤ endS f0 d0 r * endS f1 d1 r := Nat.mul_le_mul_right _ (by omega)
      rw [Nat.succ_mul] at this
      omega
  rw [List.length_flatMap] at key
  simpa using key

/-! ## numbers that are small -/
section
open Go.ChangeShapes Go.WideShapes Go.ChangeAt Go.RowKit
theorem wrap64_small {x : Int} (h1 : -1000000 ≤ x) (h2 : x ≤ 1000000) : wrap64 x = x := by unfold wrap64; omega
theorem slack_facts {v x z d : Nat} (h : z + x + d ≤ v) (hv : v ≤ 81) : decide ((x : Int) < 0) = false ∧ wrap64 ((z : Int) + (x : Int)) = (z : Int) + (x : Int) ∧ wrap64 ((z : Int) + (x : Int) + (d : Int)) = (z : Int) + (x : Int) + (d : Int) ∧
    decide ((v : Int) < (z : Int) + (x : Int) + (d : Int)) = false ∧ ¬ v < z + x + d :=
  ⟨by rw [decide_eq_false_iff_not]; omega, wrap64_small (by omega) (by omega), wrap64_small (by omega) (by omega), by rw [decide_eq_false_iff_not]; omega, by omega⟩
theorem places_facts {v x d : Nat} (h : x + d ≤ v) (hv : v ≤ 81) : decide ((x : Int) < 0) = false ∧ wrap64 ((x : Int) + (d : Int)) = (x : Int) + (d : Int) ∧ decide ((v : Int) < (x : Int) + (d : Int)) = false ∧ ¬ v < x + d :=
  ⟨by rw [decide_eq_false_iff_not]; omega, wrap64_small (by omega) (by omega), by rw [decide_eq_false_iff_not]; omega, by omega⟩
theorem sum_facts {S d n : Nat} (h : S ≤ 81 * n) (hn : n ≤ 9) (hd : d ≤ 81) : wrap64 ((S : Int) + (d : Int)) = ((S + d : Nat) : Int) := by rw [wrap64_small (by omega) (by omega)]; omega
theorem mul_facts {x y : Nat} (hx : x ≤ 9) (hy : y ≤ 9) : x * y ≤ 81 ∧ wrap64 ((x : Int) * (y : Int)) = ((x * y : Nat) : Int) := by
  have h : x * y ≤ 81 := Nat.mul_le_mul hx hy
  refine ⟨h, ?_⟩
  rw [← Int.natCast_mul, wrap64_small (by omega) (by omega)]

end
/-! ## the laws -/
theorem wideV_yes {p : List ByteArray} {l : List Int} (h : sizedB p l = true) (way : Nat) : wideV p l way = endS (pL p way) (dN l) (gridR p) := by unfold wideV; rw [if_pos h]
/-- a list of as many ones -/
def onesI (n : Nat) : List Int := List.replicate n 1
theorem ones_sized {p : List ByteArray} {l : List Int} (h : sizedB p l = true) : sizedB p (onesI l.length) = true := by
  obtain ⟨h1, h2, h3⟩ := sizedB_yes h
  unfold sizedB
  rw [h1, Bool.true_and, Bool.and_eq_true, decide_eq_true_eq]
  refine ⟨by unfold onesI; rw [List.length_replicate]; exact h2, ?_⟩
  unfold needB onesI
  rw [List.all_eq_true]
  intro x hx
  rw [List.eq_of_mem_replicate hx]; rfl
theorem endS_congr {f : Nat → Nat → Bool} {d d' : Nat → Nat} {r : Nat} (h : ∀ a, a < r → d a = d' a) : endS f d r = endS f d' r := by
  have hk : ∀ k b, wK f d r k b = wK f d' r k b := by
    intro k
    induction k with
    | zero => intro b; rfl
    | succ k ih =>
      intro b
      rw [wK_succ, wK_succ]
      exact gM_congr fun a ha _ => by rw [ih a, h a ha]
  apply Nat.le_antisymm
  · exact (eM_le r).2 fun a ha => by rw [show sumS f d r a = sumS f d' r a from hk r a, h a ha]; exact end_each ha
  · exact (eM_le r).2 fun a ha => by rw [show sumS f d' r a = sumS f d r a from (hk r a).symm, ← h a ha]; exact end_each ha
theorem gridR_pos {p : List ByteArray} (h : planB p = true) : 1 ≤ gridR p := by
  have hP := planP_of h
  have h := gridG_lt (p := p) (i := 0) (j := 0) (by have := hP.grid.h1; omega) (by have := hP.grid.w1; omega)
  omega
/-- the greatest of the first numbers of a list -/
def mostI (l : List Int) : Nat → Int
  | 0 => 0
  | i + 1 => if mostI l i < l.getD i 0 then l.getD i 0 else mostI l i
theorem sum_needs {l : List Int} (h : needB l = true) : ∀ i, i ≤ l.length → (l.take i).sum = ((totF (dN l) (fun _ => true) i : Nat) : Int)
  | 0, _ => by simp [totF]
  | i + 1, hi => by
    have h1 := sum_needs h i (by omega)
    have h2 := (needB_at h (a := i) (by omega)).1
    rw [List.take_add_one, List.sum_append, h1]
    have h3 : l[i]? = some (l.getD i 0) := by rw [List.getD_eq_getElem?_getD, List.getElem?_eq_getElem (by omega)]; rfl
    rw [h3, h2, totF_succ]
    simp
/-- what the law of least widths asks -/
theorem wideNeeds_math {p : List ByteArray} {l : List Int} (h : sizedB p l = true) :
    wideV p (onesI l.length) 0 = longP p 0 ∧ mostI l l.length ≤ ((wideV p l 0 : Nat) : Int) ∧ ((wideV p l 0 : Nat) : Int) ≤ l.sum ∧ wideV p (onesI l.length) 0 ≤ wideV p l 0 := by
  obtain ⟨h1, h2, h3⟩ := sizedB_yes h
  have G := pL_goes h1 (way := 0) (by omega)
  have ho := ones_sized h
  have e1 : endS (pL p 0) (dN (onesI l.length)) (gridR p) = endS (pL p 0) (fun _ => 1) (gridR p) := endS_congr fun a ha => by
    unfold dN onesI
    rw [List.getD_eq_getElem?_getD, List.getElem?_replicate, if_pos (by omega)]; rfl
  rw [wideV_yes h, wideV_yes ho, e1, longP_yes h1]
  refine ⟨G.ones_long, ?_, ?_, ?_⟩
  · have : ∀ i, i ≤ l.length → mostI l i ≤ ((endS (pL p 0) (dN l) (gridR p) : Nat) : Int) := by
      intro i
      induction i with
      | zero => intro _; unfold mostI; omega
      | succ i ih =>
        intro hi
        have := ih (by omega)
        have k1 := (needB_at h3 (a := i) (by omega)).1
        have k2 := end_each (f := pL p 0) (d := dN l) (r := gridR p) (a := i) (by omega)
        unfold mostI
        split <;> omega
    exact this _ (Nat.le_refl _)
  · have := sum_needs h3 l.length (Nat.le_refl _)
    rw [List.take_length] at this
    rw [this, h2]
    have := G.end_total (d := dN l)
    omega
  · exact G.ones_end fun a ha => (needB_at h3 (by omega)).2.1
/-- what the law of places asks -/
theorem places_math {p : List ByteArray} {l : List Int} (h : sizedB p l = true) :
    (placesV p l 0).length = l.length ∧ 1 ≤ l.length ∧ l.length ≤ 9 ∧ (placesV p l 0).getD 0 0 = 0 ∧ (∀ x, x < l.length → (placesV p l 0).getD x 0 + dN l x ≤ wideV p l 0) ∧
    (∀ x y, x < l.length → y < l.length → ledP p 0 (x : Int) (y : Int) = true → (placesV p l 0).getD x 0 + dN l x ≤ (placesV p l 0).getD y 0) := by
  obtain ⟨h1, h2, h3, h4, h5, h6⟩ := sized_facts h
  have G := pL_goes h1 (way := 0) (by omega)
  have hp := plainB_plan h1
  have hP := planP_of hp
  have e : placesV p l 0 = sumL (pL p 0) (dN l) (gridR p) := by unfold placesV; rw [if_pos h]
  rw [e, wideV_yes h, sumL_len]
  refine ⟨h2.symm, by omega, by omega, ?_, fun x hx => ?_, fun x y hx hy hl => ?_⟩
  · rw [sumL_at (by omega)]
    rcases G.sum_some (d := dN l) (b := 0) (by omega) with k | ⟨a, ha, hf, _⟩
    · exact k
    · exfalso
      obtain ⟨i, j, hi, hj, ea⟩ := room_at ha
      have h0 := room_zero hp
      have hh := hP.grid.h1
      have hw := hP.grid.w1
      rw [pL_left, ← ea, ← h0] at hf
      have := left_cols hP.rectG (noX_of h1) hi hj (by omega) (by omega) hf
      omega
  · rw [sumL_at (by omega)]; exact end_each (by omega)
  · rw [sumL_at (by omega), sumL_at (by omega)]
    rw [ledP_nat h1 0 (by omega) (by omega)] at hl
    exact G.sum_up hl
/-- what the law of slack asks -/
theorem slack_math {p : List ByteArray} {l : List Int} (h : sizedB p l = true) :
    (slackV p l).length = l.length ∧ (placesV p l 0).length = l.length ∧ 1 ≤ l.length ∧ l.length ≤ 9 ∧ (∀ x, x < l.length → (placesV p l 0).getD x 0 + (slackV p l).getD x 0 + dN l x ≤ wideV p l 0) ∧
    wideV p l 0 ≤ totF (dN l) (fun a => decide ((slackV p l).getD a 0 = 0)) l.length := by
  obtain ⟨h1, h2, h3, h4, h5, h6⟩ := sized_facts h
  have G := pL_goes h1 (way := 0) (by omega)
  have e : placesV p l 0 = sumL (pL p 0) (dN l) (gridR p) := by unfold placesV; rw [if_pos h]
  have e2 : slackV p l = slL (pL p 0) (dN l) (gridR p) := by unfold slackV; rw [if_pos h]
  have sat : ∀ x, x < gridR p → (slackV p l).getD x 0 = slN (pL p 0) (dN l) (gridR p) x := fun x hx => by rw [e2]; simp [slL, hx]
  rw [wideV_yes h]
  refine ⟨by rw [e2, slL_len, h2], by rw [e, sumL_len, h2], by omega, by omega, fun x hx => ?_, ?_⟩
  · rw [sat x (by omega), e, sumL_at (by omega)]
    have := thru_le (d := dN l) G (gridR p) x (by omega)
    unfold slN sumS at *
    omega
  · refine Nat.le_trans (G.slack_total h5 fun a ha => (needB_at h3 (by omega)).2.1) ?_
    rw [h2]
    have : ∀ i, i ≤ gridR p → totF (dN l) (fun a => decide (slN (pL p 0) (dN l) (gridR p) a = 0)) i = totF (dN l) (fun a => decide ((slackV p l).getD a 0 = 0)) i := by
      intro i
      induction i with
      | zero => intro _; rfl
      | succ i ih =>
        intro hi
        unfold totF
        rw [ih (by omega)]
        simp only [sat i (by omega)]
    exact Nat.le_of_eq (this _ (Nat.le_refl _))
/-- what the law of areas asks -/
theorem sizeAreas_math {p : List ByteArray} {l m : List Int} (h : sizedB p l = true) (h' : sizedB p m = true) :
    ((List.range l.length).map fun a => dN l a * dN m a).sum ≤ wideV p l 0 * wideV p m 1 := by
  obtain ⟨h1, h2, h3⟩ := sizedB_yes h
  rw [wideV_yes h, wideV_yes h', h2]
  exact rooms_pack (pL_goes h1 (way := 0) (by omega)) (pL_goes h1 (way := 1) (by omega)) fun a b ha hb hne => pL_some (plainB_plan h1) ha hb hne
end Go.Proofs.Ytobkbgbkkiiloaa
