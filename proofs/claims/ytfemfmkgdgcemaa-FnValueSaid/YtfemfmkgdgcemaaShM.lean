
/-
  Mathematics of sheets that are cut: the best score of a sheet over all its cuts is the least one that keeps the scores of uncut sheets and of both parts of each cut.
-/
import Derived.Test.YtfemfmkgdgcemaaBase
namespace Go.Proofs.Ytfemfmkgdgcemaa

/-- both parts of each cut of a sheet, in order -/
def cutsL (w h : Nat) : List ((Nat × Nat) × (Nat × Nat)) :=
  (List.range (w - 1)).map (fun c => ((c + 1, h), (w - (c + 1), h))) ++ (List.range (h - 1)).map (fun c => ((w, c + 1), (w, h - (c + 1))))
def bothF (f : Nat → Nat → Int) (x : (Nat × Nat) × (Nat × Nat)) : Int := f x.1.1 x.1.2 + f x.2.1 x.2.2
/-- best scores by fuel -/
def tabF (op : Int → Int → Int) (u : Nat → Nat → Int) : Nat → Nat → Nat → Int
  | 0, w, h => u w h
  | k + 1, w, h => ((cutsL w h).map (bothF (tabF op u k))).foldl op (u w h)
def tabC (op : Int → Int → Int) (u : Nat → Nat → Int) (w h : Nat) : Int := tabF op u (w + h) w h

theorem mem_cutsL {w h : Nat} {x : (Nat × Nat) × (Nat × Nat)} (hx : x ∈ cutsL w h) :
    (∃ c, 1 ≤ c ∧ c < w ∧ x = ((c, h), (w - c, h))) ∨ (∃ c, 1 ≤ c ∧ c < h ∧ x = ((w, c), (w, h - c))) := by
  unfold cutsL at hx
  rw [List.mem_append, List.mem_map, List.mem_map] at hx
  rcases hx with ⟨c, hc, rfl⟩ | ⟨c, hc, rfl⟩
  · rw [List.mem_range] at hc; exact .inl ⟨c + 1, by omega, by omega, rfl⟩
  · rw [List.mem_range] at hc; exact .inr ⟨c + 1, by omega, by omega, rfl⟩
theorem cutsL_wide {w h c : Nat} (h1 : 1 ≤ c) (h2 : c < w) : ((c, h), (w - c, h)) ∈ cutsL w h := by
  unfold cutsL
  rw [List.mem_append, List.mem_map]
  refine .inl ⟨c - 1, by rw [List.mem_range]; omega, ?_⟩
  rw [show c - 1 + 1 = c by omega]
theorem cutsL_high {w h c : Nat} (h1 : 1 ≤ c) (h2 : c < h) : ((w, c), (w, h - c)) ∈ cutsL w h := by
  unfold cutsL
  rw [List.mem_append, List.mem_map, List.mem_map]
  refine .inr ⟨c - 1, by rw [List.mem_range]; omega, ?_⟩
  rw [show c - 1 + 1 = c by omega]

theorem tabF_more (op : Int → Int → Int) (u : Nat → Nat → Int) : ∀ k w h, w + h ≤ k → ∀ k', w + h ≤ k' → tabF op u k w h = tabF op u k' w h := by
  intro k
  induction k with
  | zero =>
    intro w h hk k' hk'
    obtain rfl : w = 0 := by omega
    obtain rfl : h = 0 := by omega
    cases k' with
    | zero => rfl
    | succ k' => rfl
  | succ k ih =>
    intro w h hk k' hk'
    cases k' with
    | zero =>
      obtain rfl : w = 0 := by omega
      obtain rfl : h = 0 := by omega
      rfl
    | succ k' =>
      simp only [tabF]
      congr 1
      refine List.map_congr_left fun x hx => ?_
      rcases mem_cutsL hx with ⟨c, h1, h2, rfl⟩ | ⟨c, h1, h2, rfl⟩
      · simp only [bothF]
        rw [ih c h (by omega) k' (by omega), ih (w - c) h (by omega) k' (by omega)]
      · simp only [bothF]
        rw [ih w c (by omega) k' (by omega), ih w (h - c) (by omega) k' (by omega)]
theorem tabC_eq (op : Int → Int → Int) (u : Nat → Nat → Int) (w h : Nat) : tabC op u w h = ((cutsL w h).map (bothF (tabC op u))).foldl op (u w h) := by
  unfold tabC
  rw [tabF_more op u (w + h) w h (Nat.le_refl _) (w + h + 1) (by omega)]
  simp only [tabF]
  congr 1
  refine List.map_congr_left fun x hx => ?_
  rcases mem_cutsL hx with ⟨c, h1, h2, rfl⟩ | ⟨c, h1, h2, rfl⟩
  · simp only [bothF]
    rw [tabF_more op u (w + h) c h (by omega) (c + h) (Nat.le_refl _), tabF_more op u (w + h) (w - c) h (by omega) (w - c + h) (Nat.le_refl _)]
  · simp only [bothF]
    rw [tabF_more op u (w + h) w c (by omega) (w + c) (Nat.le_refl _), tabF_more op u (w + h) w (h - c) (by omega) (w + (h - c)) (Nat.le_refl _)]

/-- the greater one, and the lesser one, as the program chooses -/
def opG (a b : Int) : Int := if a < b then b else a
def opC (a b : Int) : Int := if b < a then b else a
theorem foldG_ge (l : List Int) : ∀ x, x ≤ l.foldl opG x ∧ ∀ y ∈ l, y ≤ l.foldl opG x := by
  induction l with
  | nil => intro x; exact ⟨Int.le_refl _, fun y hy => by cases hy⟩
  | cons a l ih =>
    intro x
    obtain ⟨h1, h2⟩ := ih (opG x a)
    have hx : x ≤ opG x a ∧ a ≤ opG x a := by unfold opG; split <;> omega
    refine ⟨Int.le_trans hx.1 h1, fun y hy => ?_⟩
    rw [List.mem_cons] at hy
    rcases hy with rfl | hy
    · exact Int.le_trans hx.2 h1
    · exact h2 y hy
theorem foldG_le (l : List Int) (m : Int) : ∀ x, x ≤ m → (∀ y ∈ l, y ≤ m) → l.foldl opG x ≤ m := by
  induction l with
  | nil => intro x hx _; exact hx
  | cons a l ih =>
    intro x hx hl
    refine ih _ ?_ (fun y hy => hl y (List.mem_cons_of_mem _ hy))
    have := hl a List.mem_cons_self
    unfold opG; split <;> omega
theorem foldC_neg (l : List Int) : ∀ x, l.foldl opC x = -((l.map (fun y => -y)).foldl opG (-x)) := by
  induction l with
  | nil => intro x; simp
  | cons a l ih =>
    intro x
    simp only [List.foldl_cons, List.map_cons]
    rw [ih]
    congr 2
    unfold opC opG
    split <;> split <;> omega

/-- best scores: no lesser than those of uncut sheets, nor than those of both parts of a cut -/
structure Sup (u f : Nat → Nat → Int) : Prop where
  own : ∀ w h, 1 ≤ w → 1 ≤ h → u w h ≤ f w h
  wide : ∀ a b h, 1 ≤ a → 1 ≤ b → 1 ≤ h → f a h + f b h ≤ f (a + b) h
  high : ∀ w a b, 1 ≤ w → 1 ≤ a → 1 ≤ b → f w a + f w b ≤ f w (a + b)
/-- the least best scores -/
structure Least (u f : Nat → Nat → Int) : Prop where
  sup : Sup u f
  least : ∀ g, Sup u g → ∀ w h, 1 ≤ w → 1 ≤ h → f w h ≤ g w h

theorem Least.eq {u f g : Nat → Nat → Int} (hf : Least u f) (hg : Least u g) {w h : Nat} (h1 : 1 ≤ w) (h2 : 1 ≤ h) : f w h = g w h :=
  Int.le_antisymm (hf.least g hg.sup w h h1 h2) (hg.least f hf.sup w h h1 h2)

/-- scores that are the best of their cuts, told by any list of sums of cuts that has each cut once at least, one way round -/
theorem least_of {u f : Nat → Nat → Int} (hge : ∀ w h, 1 ≤ w → 1 ≤ h → u w h ≤ f w h)
    (hw : ∀ w h c, 1 ≤ h → 1 ≤ c → 2 * c ≤ w → f c h + f (w - c) h ≤ f w h) (hh : ∀ w h c, 1 ≤ w → 1 ≤ c → 2 * c ≤ h → f w c + f w (h - c) ≤ f w h)
    (hle : ∀ w h m, 1 ≤ w → 1 ≤ h → u w h ≤ m → (∀ c, 1 ≤ c → c < w → f c h + f (w - c) h ≤ m) → (∀ c, 1 ≤ c → c < h → f w c + f w (h - c) ≤ m) → f w h ≤ m) : Least u f := by
  refine ⟨⟨hge, fun a b h h1 h2 h3 => ?_, fun w a b h1 h2 h3 => ?_⟩, fun g hg => ?_⟩
  · rcases Nat.le_total a b with hab | hab
    · have := hw (a + b) h a h3 h1 (by omega)
      rwa [show a + b - a = b by omega] at this
    · have := hw (a + b) h b h3 h2 (by omega)
      rw [show a + b - b = a by omega] at this
      omega
  · rcases Nat.le_total a b with hab | hab
    · have := hh w (a + b) a h1 h2 (by omega)
      rwa [show a + b - a = b by omega] at this
    · have := hh w (a + b) b h1 h3 (by omega)
      rw [show a + b - b = a by omega] at this
      omega
  · have key : ∀ n w h, w + h ≤ n → 1 ≤ w → 1 ≤ h → f w h ≤ g w h := by
      intro n
      induction n with
      | zero => intro w h hn h1; omega
      | succ n ih =>
        intro w h hn h1 h2
        refine hle w h _ h1 h2 (hg.own w h h1 h2) (fun c hc hcw => ?_) (fun c hc hch => ?_)
        · have e1 := ih c h (by omega) hc h2
          have e2 := ih (w - c) h (by omega) (by omega) h2
          have e3 := hg.wide c (w - c) h hc (by omega) h2
          rw [show c + (w - c) = w by omega] at e3
          omega
        · have e1 := ih w c (by omega) h1 hc
          have e2 := ih w (h - c) (by omega) h1 (by omega)
          have e3 := hg.high w c (h - c) h1 hc (by omega)
          rw [show c + (h - c) = h by omega] at e3
          omega
    exact fun w h h1 h2 => key (w + h) w h (Nat.le_refl _) h1 h2

theorem tabG_least (u : Nat → Nat → Int) : Least u (tabC opG u) := by
  refine least_of (fun w h _ _ => ?_) (fun w h c _ h1 h2 => ?_) (fun w h c _ h1 h2 => ?_) (fun w h m _ _ hu h1 h2 => ?_)
  · rw [tabC_eq]; exact (foldG_ge _ _).1
  · rw [tabC_eq opG u w h]
    exact (foldG_ge _ _).2 _ (List.mem_map.2 ⟨_, cutsL_wide h1 (by omega), rfl⟩)
  · rw [tabC_eq opG u w h]
    exact (foldG_ge _ _).2 _ (List.mem_map.2 ⟨_, cutsL_high h1 (by omega), rfl⟩)
  · rw [tabC_eq]
    refine foldG_le _ _ _ hu fun y hy => ?_
    obtain ⟨x, hx, rfl⟩ := List.mem_map.1 hy
    rcases mem_cutsL hx with ⟨c, hc, hcw, rfl⟩ | ⟨c, hc, hcw, rfl⟩
    · exact h1 c hc hcw
    · exact h2 c hc hcw
theorem tabC_neg (u : Nat → Nat → Int) : ∀ n w h, w + h ≤ n → tabC opC u w h = -tabC opG (fun w h => -(u w h)) w h := by
  intro n
  induction n with
  | zero =>
    intro w h hn
    obtain rfl : w = 0 := by omega
    obtain rfl : h = 0 := by omega
    rw [tabC_eq, tabC_eq]
    simp [cutsL]
  | succ n ih =>
    intro w h hn
    rw [tabC_eq, tabC_eq opG, foldC_neg, List.map_map]
    congr 2
    refine List.map_congr_left fun x hx => ?_
    rcases mem_cutsL hx with ⟨c, hc, hcw, rfl⟩ | ⟨c, hc, hcw, rfl⟩
    · simp only [Function.comp, bothF]
      rw [ih c h (by omega), ih (w - c) h (by omega)]
      omega
    · simp only [Function.comp, bothF]
      rw [ih w c (by omega), ih w (h - c) (by omega)]
      omega

theorem Sup.mono {u v f : Nat → Nat → Int} (h : Sup u f) (hv : ∀ w h, 1 ≤ w → 1 ≤ h → v w h ≤ u w h) : Sup v f :=
  ⟨fun w k h1 h2 => Int.le_trans (hv w k h1 h2) (h.own w k h1 h2), h.wide, h.high⟩
theorem Least.flip {u f : Nat → Nat → Int} (hf : Least u f) (hu : ∀ w h, u w h = u h w) {w h : Nat} (h1 : 1 ≤ w) (h2 : 1 ≤ h) : f w h = f h w := by
  have hs : Sup u (fun w h => f h w) := ⟨fun w h h1 h2 => by rw [hu]; exact hf.sup.own h w h2 h1, fun a b h h1 h2 h3 => hf.sup.high h a b h3 h1 h2, fun w a b h1 h2 h3 => hf.sup.wide a b w h2 h3 h1⟩
  exact Int.le_antisymm (hf.least _ hs w h h1 h2) (hf.least _ hs h w h2 h1)

/-- scores of sheets whose uncut ones are no less than nothing -/
theorem Sup.nonneg {u f : Nat → Nat → Int} (hf : Sup u f) (hu : ∀ w h, 1 ≤ w → 1 ≤ h → 0 ≤ u w h) {w h : Nat} (h1 : 1 ≤ w) (h2 : 1 ≤ h) : 0 ≤ f w h :=
  Int.le_trans (hu w h h1 h2) (hf.own w h h1 h2)
theorem Sup.more {u f : Nat → Nat → Int} (hf : Sup u f) (hu : ∀ w h, 1 ≤ w → 1 ≤ h → 0 ≤ u w h) {w h : Nat} (h1 : 1 ≤ w) (h2 : 1 ≤ h) : f w h ≤ f (w + 1) h := by
  have a := hf.wide w 1 h h1 (Nat.le_refl _) h2
  have b := hf.nonneg hu (Nat.le_refl 1) h2
  omega

/-- one for pieces -/
def worthM (a b : Nat) (w h : Nat) : Int := if (w = a ∧ h = b) ∨ (w = b ∧ h = a) then 1 else 0
theorem worthM_flip (a b w h : Nat) : worthM a b w h = worthM a b h w := by
  unfold worthM; congr 1; apply propext; omega
theorem worthM_turn (a b w h : Nat) : worthM a b w h = worthM b a w h := by
  unfold worthM; congr 1; apply propext; omega
theorem worthM_pos (a b w h : Nat) : 0 ≤ worthM a b w h := by unfold worthM; split <;> omega
def mostN (a b w h : Nat) : Int := tabC opG (worthM a b) w h
theorem most_least (a b : Nat) : Least (worthM a b) (mostN a b) := tabG_least _
theorem mostN_pos {a b w h : Nat} (h1 : 1 ≤ w) (h2 : 1 ≤ h) : 0 ≤ mostN a b w h := (most_least a b).sup.nonneg (fun w h _ _ => worthM_pos a b w h) h1 h2
theorem mostN_flip {a b w h : Nat} (h1 : 1 ≤ w) (h2 : 1 ≤ h) : mostN a b w h = mostN a b h w := (most_least a b).flip (worthM_flip a b) h1 h2
theorem mostN_turn (a b w h : Nat) : mostN a b w h = mostN b a w h := by
  unfold mostN
  congr 1
  funext w h
  exact worthM_turn a b w h
theorem div_sup (k x y : Nat) (hk : 1 ≤ k) : x / k + y / k ≤ (x + y) / k := by
  rw [Nat.le_div_iff_mul_le (by omega), Nat.add_mul]
  exact Nat.add_le_add (Nat.div_mul_le_self x k) (Nat.div_mul_le_self y k)
theorem mostN_le {a b w h : Nat} (ha : 1 ≤ a) (hb : 1 ≤ b) (h1 : 1 ≤ w) (h2 : 1 ≤ h) : mostN a b w h * (a * b : Nat) ≤ ((w * h : Nat) : Int) := by
  have hk : 1 ≤ a * b := Nat.mul_pos ha hb
  have hs : Sup (worthM a b) (fun w h => ((w * h / (a * b) : Nat) : Int)) := by
    refine ⟨fun w h _ _ => ?_, fun x y h _ _ _ => ?_, fun w x y _ _ _ => ?_⟩
    · unfold worthM
      split
      · next hc =>
        have : w * h = a * b := by
          rcases hc with ⟨rfl, rfl⟩ | ⟨rfl, rfl⟩
          · rfl
          · exact Nat.mul_comm _ _
        rw [this, Nat.div_self (by omega)]
        exact Int.le_refl _
      · exact Int.natCast_nonneg _
    · have := div_sup (a * b) (x * h) (y * h) hk
      rw [← Nat.add_mul] at this
      exact_mod_cast this
    · have := div_sup (a * b) (w * x) (w * y) hk
      rw [← Nat.mul_add] at this
      exact_mod_cast this
  have hl := (most_least a b).least _ hs w h h1 h2
  have hm : (((w * h / (a * b) : Nat) : Int)) * (a * b : Nat) ≤ ((w * h : Nat) : Int) := by
    exact_mod_cast Nat.div_mul_le_self (w * h) (a * b)
  exact Int.le_trans (Int.mul_le_mul_of_nonneg_right hl (Int.natCast_nonneg _)) hm
theorem Sup.many_wide {u f : Nat → Nat → Int} (hf : Sup u f) {a h : Nat} (ha : 1 ≤ a) (h2 : 1 ≤ h) : ∀ k : Nat, 1 ≤ k → (k : Int) * f a h ≤ f (k * a) h := by
  intro k
  induction k with
  | zero => intro hk; omega
  | succ k ih =>
    intro _
    rcases Nat.eq_zero_or_pos k with rfl | hk
    · simp
    · have h1 := ih hk
      have h3 := hf.wide (k * a) a h (Nat.mul_pos hk ha) ha h2
      rw [show k * a + a = (k + 1) * a by rw [Nat.add_mul, Nat.one_mul]] at h3
      have : ((k + 1 : Nat) : Int) * f a h = (k : Int) * f a h + f a h := by rw [Int.natCast_add, Int.add_mul]; simp
      omega
theorem Sup.many_high {u f : Nat → Nat → Int} (hf : Sup u f) {w b : Nat} (hb : 1 ≤ b) (h2 : 1 ≤ w) : ∀ k : Nat, 1 ≤ k → (k : Int) * f w b ≤ f w (k * b) := by
  intro k
  induction k with
  | zero => intro hk; omega
  | succ k ih =>
    intro _
    rcases Nat.eq_zero_or_pos k with rfl | hk
    · simp
    · have h1 := ih hk
      have h3 := hf.high w (k * b) b h2 (Nat.mul_pos hk hb) hb
      rw [show k * b + b = (k + 1) * b by rw [Nat.add_mul, Nat.one_mul]] at h3
      have : ((k + 1 : Nat) : Int) * f w b = (k : Int) * f w b + f w b := by rw [Int.natCast_add, Int.add_mul]; simp
      omega
theorem Sup.grow_wide {u f : Nat → Nat → Int} (hf : Sup u f) (hu : ∀ w h, 1 ≤ w → 1 ≤ h → 0 ≤ u w h) {x w h : Nat} (hx : 1 ≤ x) (hxw : x ≤ w) (h2 : 1 ≤ h) : f x h ≤ f w h := by
  rcases Nat.lt_or_ge x w with hlt | hge
  · have a := hf.wide x (w - x) h hx (by omega) h2
    rw [show x + (w - x) = w by omega] at a
    have b := hf.nonneg hu (show 1 ≤ w - x by omega) h2
    omega
  · obtain rfl : x = w := by omega
    exact Int.le_refl _
theorem Sup.grow_high {u f : Nat → Nat → Int} (hf : Sup u f) (hu : ∀ w h, 1 ≤ w → 1 ≤ h → 0 ≤ u w h) {x w h : Nat} (hx : 1 ≤ x) (hxh : x ≤ h) (h2 : 1 ≤ w) : f w x ≤ f w h := by
  rcases Nat.lt_or_ge x h with hlt | hge
  · have a := hf.high w x (h - x) h2 hx (by omega)
    rw [show x + (h - x) = h by omega] at a
    have b := hf.nonneg hu h2 (show 1 ≤ h - x by omega)
    omega
  · obtain rfl : x = h := by omega
    exact Int.le_refl _
theorem mostN_rows {a b w h : Nat} (ha : 1 ≤ a) (hb : 1 ≤ b) (h1 : 1 ≤ w) (h2 : 1 ≤ h) : (((w / a) * (h / b) : Nat) : Int) ≤ mostN a b w h := by
  have hs := (most_least a b).sup
  have hu : ∀ w h, 1 ≤ w → 1 ≤ h → 0 ≤ worthM a b w h := fun w h _ _ => worthM_pos a b w h
  rcases Nat.eq_zero_or_pos (w / a) with h0 | hk
  · rw [h0]; simp; exact mostN_pos h1 h2
  rcases Nat.eq_zero_or_pos (h / b) with h0 | hm
  · rw [h0]; simp; exact mostN_pos h1 h2
  have e1 : (1 : Int) ≤ mostN a b a b := by
    have := hs.own a b ha hb
    rwa [show worthM a b a b = 1 by unfold worthM; rw [if_pos (.inl ⟨rfl, rfl⟩)]] at this
  have hka := Nat.mul_pos hk ha
  have e2 := hs.many_wide ha hb (w / a) hk
  have e3 := hs.many_high hb hka (h / b) hm
  have e4 := hs.grow_wide hu hka (Nat.div_mul_le_self w a) (Nat.mul_pos hm hb)
  have e5 := hs.grow_high hu (Nat.mul_pos hm hb) (Nat.div_mul_le_self h b) h1
  have e6 : ((w / a : Nat) : Int) ≤ mostN a b (w / a * a) b := by
    have : ((w / a : Nat) : Int) * 1 ≤ ((w / a : Nat) : Int) * mostN a b a b := Int.mul_le_mul_of_nonneg_left e1 (Int.natCast_nonneg _)
    omega
  have e7 : ((h / b : Nat) : Int) * ((w / a : Nat) : Int) ≤ ((h / b : Nat) : Int) * mostN a b (w / a * a) b := Int.mul_le_mul_of_nonneg_left e6 (Int.natCast_nonneg _)
  rw [Nat.mul_comm, Int.natCast_mul]
  omega
theorem mostN_rows2 {a b w h : Nat} (ha : 1 ≤ a) (hb : 1 ≤ b) (h1 : 1 ≤ w) (h2 : 1 ≤ h) : (((w / b) * (h / a) : Nat) : Int) ≤ mostN a b w h := by
  rw [mostN_turn]; exact mostN_rows hb ha h1 h2

/-- one less for squares; less than nothing enough for others -/
def worthS (w h : Nat) : Int := if w = h then 1 else ((w * h : Nat) : Int)
def worthT (w h : Nat) : Int := if w = h then -1 else -100000
def squaN (w h : Nat) : Int := tabC opC worthS w h
theorem squa_area {f : Nat → Nat → Int} (hf : Sup worthT f) : ∀ n w h, w + h ≤ n → 1 ≤ w → 1 ≤ h → -((w * h : Nat) : Int) ≤ f w h := by
  intro n
  induction n with
  | zero => intro w h hn h1; omega
  | succ n ih =>
    intro w h hn h1 h2
    by_cases hq : w = h
    · have := hf.own w h h1 h2
      unfold worthT at this
      rw [if_pos hq] at this
      have : 1 ≤ w * h := Nat.mul_pos h1 h2
      omega
    · rcases Nat.lt_or_ge 1 w with hw | hw
      · have e1 := ih 1 h (by omega) (Nat.le_refl _) h2
        have e2 := ih (w - 1) h (by omega) (by omega) h2
        have e3 := hf.wide 1 (w - 1) h (Nat.le_refl _) (by omega) h2
        rw [show 1 + (w - 1) = w by omega] at e3
        have : 1 * h + (w - 1) * h = w * h := by rw [← Nat.add_mul]; congr 1; omega
        omega
      · have e1 := ih w 1 (by omega) h1 (Nat.le_refl _)
        have e2 := ih w (h - 1) (by omega) h1 (by omega)
        have e3 := hf.high w 1 (h - 1) h1 (Nat.le_refl _) (by omega)
        rw [show 1 + (h - 1) = h by omega] at e3
        have : w * 1 + w * (h - 1) = w * h := by rw [← Nat.mul_add]; congr 1; omega
        omega
/-- the program's squares are the model's (sheets of at most 12 by 12) -/
theorem squa_least (f : Nat → Nat → Int) (hf : Least worthT f) {w h : Nat} (h1 : 1 ≤ w) (h2 : 1 ≤ h) (hw : w ≤ 12) (hh : h ≤ 12) : squaN w h = -f w h := by
  unfold squaN
  rw [tabC_neg worthS (w + h) w h (Nat.le_refl _)]
  have hu := tabG_least (fun w h => -(worthS w h))
  congr 1
  have ha := squa_area hf.sup
  refine Int.le_antisymm ?_ ?_
  · refine hu.least f ⟨fun w h h1 h2 => ?_, hf.sup.wide, hf.sup.high⟩ w h h1 h2
    unfold worthS
    split
    · next hq =>
      have := hf.sup.own w h h1 h2
      unfold worthT at this
      rwa [if_pos hq] at this
    · exact ha (w + h) w h (Nat.le_refl _) h1 h2
  · have hs : Sup worthT (fun w h => if w ≤ 12 ∧ h ≤ 12 then tabC opG (fun w h => -(worthS w h)) w h else 0) := by
      have hneg : ∀ w h, 1 ≤ w → 1 ≤ h → tabC opG (fun w h => -(worthS w h)) w h ≤ 0 := fun w h h1 h2 =>
        hu.least (fun _ _ => 0) ⟨fun w h _ _ => by simp only [worthS]; split <;> omega, fun _ _ _ _ _ _ => by omega, fun _ _ _ _ _ _ => by omega⟩ w h h1 h2
      refine ⟨fun w h h1 h2 => ?_, fun a b h h1 h2 h3 => ?_, fun w a b h1 h2 h3 => ?_⟩
      · have := hu.sup.own w h h1 h2
        try simp only
        split
        · next hc =>
          refine Int.le_trans ?_ this
          have : w * h ≤ 12 * 12 := Nat.mul_le_mul hc.1 hc.2
          simp only [worthT, worthS]
          split <;> omega
        · unfold worthT; split <;> omega
      · have e1 := hu.sup.wide a b h h1 h2 h3
        have e2 := hneg a h h1 h3
        have e3 := hneg b h h2 h3
        try simp only
        split <;> split <;> split <;> omega
      · have e1 := hu.sup.high w a b h1 h2 h3
        have e2 := hneg w a h1 h2
        have e3 := hneg w b h1 h3
        try simp only
        split <;> split <;> split <;> omega
    have := hf.least _ hs w h h1 h2
    rwa [if_pos ⟨hw, hh⟩] at this

/-- squares by cutting the greatest one off -/
def greF : Nat → Nat → Nat → Nat
  | 0, _, _ => 0
  | k + 1, w, h => if w = h then 1 else if h < w then greF k (w - h) h + 1 else greF k w (h - w) + 1
def greN (w h : Nat) : Nat := greF (w + h) w h
theorem greF_more : ∀ k w h, w + h ≤ k → 1 ≤ w → 1 ≤ h → ∀ k', w + h ≤ k' → greF k w h = greF k' w h := by
  intro k
  induction k with
  | zero => intro w h hk h1; omega
  | succ k ih =>
    intro w h hk h1 h2 k' hk'
    cases k' with
    | zero => omega
    | succ k' =>
      simp only [greF]
      split
      · rfl
      · split
        · rw [ih (w - h) h (by omega) (by omega) h2 k' (by omega)]
        · rw [ih w (h - w) (by omega) h1 (by omega) k' (by omega)]
theorem greN_self (w : Nat) (h : 1 ≤ w) : greN w w = 1 := by
  unfold greN
  rw [show w + w = w + w - 1 + 1 by omega]
  simp [greF]
theorem greN_wide {w h : Nat} (h2 : 1 ≤ h) (hw : h < w) : greN w h = greN (w - h) h + 1 := by
  unfold greN
  rw [greF_more (w - h + h) (w - h) h (Nat.le_refl _) (by omega) h2 (w + h - 1) (by omega), show w + h = w + h - 1 + 1 by omega]
  simp only [greF]
  rw [if_neg (show ¬ w = h by omega), if_pos hw]
  rfl
theorem greN_high {w h : Nat} (h1 : 1 ≤ w) (hh : w < h) : greN w h = greN w (h - w) + 1 := by
  unfold greN
  rw [greF_more (w + (h - w)) w (h - w) (Nat.le_refl _) h1 (by omega) (w + h - 1) (by omega), show w + h = w + h - 1 + 1 by omega]
  simp only [greF]
  rw [if_neg (show ¬ w = h by omega), if_neg (show ¬ h < w by omega)]
  rfl
theorem greN_pos {w h : Nat} (h1 : 1 ≤ w) (h2 : 1 ≤ h) : 1 ≤ greN w h := by
  rcases Nat.lt_trichotomy w h with hl | rfl | hl
  · rw [greN_high h1 hl]; omega
  · rw [greN_self w h1]; omega
  · rw [greN_wide h2 hl]; omega
theorem greN_flip : ∀ n w h, w + h ≤ n → 1 ≤ w → 1 ≤ h → greN w h = greN h w := by
  intro n
  induction n with
  | zero => intro w h hn h1; omega
  | succ n ih =>
    intro w h hn h1 h2
    rcases Nat.lt_trichotomy w h with hl | rfl | hl
    · rw [greN_high h1 hl, greN_wide h1 hl, ih w (h - w) (by omega) h1 (by omega)]
    · rfl
    · rw [greN_wide h2 hl, greN_high h2 hl, ih (w - h) h (by omega) (by omega) h2]
/-- what dividing leaves -/
def greE (w h : Nat) : Nat := if w = 0 ∨ h = 0 then 0 else greN w h
theorem greE_flip (w h : Nat) : greE w h = greE h w := by
  unfold greE
  by_cases hz : w = 0 ∨ h = 0
  · rw [if_pos hz, if_pos hz.symm]
  · rw [if_neg hz, if_neg (fun e => hz e.symm)]
    exact greN_flip _ w h (Nat.le_refl _) (by omega) (by omega)
theorem greE_mod {h : Nat} (h2 : 1 ≤ h) : ∀ n w, w ≤ n → greE w h = w / h + greE (w % h) h := by
  intro n
  induction n with
  | zero =>
    intro w hn
    obtain rfl : w = 0 := by omega
    simp [greE]
  | succ n ih =>
    intro w hn
    rcases Nat.lt_trichotomy w h with hl | rfl | hl
    · rw [Nat.div_eq_of_lt hl, Nat.mod_eq_of_lt hl, Nat.zero_add]
    · rw [Nat.div_self h2, Nat.mod_self]
      unfold greE
      rw [if_neg (by omega), greN_self w h2, if_pos (.inl rfl)]
    · have e := ih (w - h) (by omega)
      have h3 : w / h = (w - h) / h + 1 := by rw [Nat.div_eq_sub_div (by omega) (by omega)]
      have h4 : w % h = (w - h) % h := by rw [Nat.mod_eq_sub_mod (by omega)]
      have h5 : greE w h = greE (w - h) h + 1 := by
        unfold greE
        rw [if_neg (show ¬ (w = 0 ∨ h = 0) by omega), if_neg (show ¬ (w - h = 0 ∨ h = 0) by omega)]
        exact greN_wide h2 hl
      rw [h5, e, h3, h4]; omega
theorem greE_n {w h : Nat} (h1 : 1 ≤ w) (h2 : 1 ≤ h) : greE w h = greN w h := by
  unfold greE; rw [if_neg (by omega)]

theorem squaN_eq {w h : Nat} (h1 : 1 ≤ w) (h2 : 1 ≤ h) (hw : w ≤ 12) (hh : h ≤ 12) : squaN w h = -tabC opG worthT w h := squa_least _ (tabG_least _) h1 h2 hw hh
theorem worthT_flip (w h : Nat) : worthT w h = worthT h w := by unfold worthT; congr 1; apply propext; omega
theorem squaN_flip {w h : Nat} (h1 : 1 ≤ w) (h2 : 1 ≤ h) (hw : w ≤ 12) (hh : h ≤ 12) : squaN w h = squaN h w := by
  rw [squaN_eq h1 h2 hw hh, squaN_eq h2 h1 hh hw, (tabG_least worthT).flip worthT_flip h1 h2]
theorem squaN_gre {w h : Nat} (h1 : 1 ≤ w) (h2 : 1 ≤ h) (hw : w ≤ 12) (hh : h ≤ 12) : squaN w h ≤ greN w h := by
  rw [squaN_eq h1 h2 hw hh]
  have hf := (tabG_least worthT).sup
  have key : ∀ n w h, w + h ≤ n → 1 ≤ w → 1 ≤ h → -(greN w h : Int) ≤ tabC opG worthT w h := by
    intro n
    induction n with
    | zero => intro w h hn h1; omega
    | succ n ih =>
      intro w h hn h1 h2
      have hq : ∀ x, 1 ≤ x → (-1 : Int) ≤ tabC opG worthT x x := fun x hx => by
        have := hf.own x x hx hx
        unfold worthT at this
        rwa [if_pos rfl] at this
      rcases Nat.lt_trichotomy w h with hl | rfl | hl
      · rw [greN_high h1 hl]
        have e1 := ih w (h - w) (by omega) h1 (by omega)
        have e2 := hf.high w w (h - w) h1 h1 (by omega)
        rw [show w + (h - w) = h by omega] at e2
        have := hq w h1
        omega
      · rw [greN_self w h1]; exact hq w h1
      · rw [greN_wide h2 hl]
        have e1 := ih (w - h) h (by omega) (by omega) h2
        have e2 := hf.wide h (w - h) h h2 (by omega) h2
        rw [show h + (w - h) = w by omega] at e2
        have := hq h h2
        omega
  have := key (w + h) w h (Nat.le_refl _) h1 h2
  omega
theorem squaN_one {w h : Nat} (h1 : 1 ≤ w) (h2 : 1 ≤ h) (hw : w ≤ 12) (hh : h ≤ 12) : 1 ≤ squaN w h ∧ (squaN w h = 1 ↔ w = h) := by
  rw [squaN_eq h1 h2 hw hh]
  have hs : Sup worthT (fun w h => if w = h then -1 else -2) := by
    refine ⟨fun w h _ _ => ?_, fun a b h _ _ _ => ?_, fun w a b _ _ _ => ?_⟩
    · unfold worthT; split <;> omega
    · split <;> split <;> split <;> omega
    · split <;> split <;> split <;> omega
  have hl : tabC opG worthT w h ≤ if w = h then -1 else -2 := (tabG_least worthT).least _ hs w h h1 h2
  have ho : (if w = h then (-1 : Int) else -100000) ≤ tabC opG worthT w h := (tabG_least worthT).sup.own w h h1 h2
  refine ⟨by split at hl <;> omega, fun e => ?_, fun e => ?_⟩
  · by_cases hq : w = h
    · exact hq
    · rw [if_neg hq] at hl; omega
  · rw [if_pos e] at ho hl
    omega

end Go.Proofs.Ytfemfmkgdgcemaa
