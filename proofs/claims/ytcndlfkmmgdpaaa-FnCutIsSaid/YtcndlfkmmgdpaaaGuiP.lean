
/-
  Depths and ways of plans that are turned. (Mathematics.)
-/
import Derived.Test.YtcndlfkmmgdpaaaGuiU
import Derived.Test.YtcndlfkmmgdpaaaIs
namespace Go.Proofs.Ytcndlfkmmgdpaaa
open Go.RowKit

/-! # least of a list, by its members -/
theorem leastO_mem {l : List Nat} {m : Nat} (h : leastO l = some m) : m ∈ l := by
  have key : ∀ (l : List Nat) (o : Option Nat), l.foldl minO o = some m → m ∈ l ∨ o = some m := by
    intro l
    induction l with
    | nil => intro o h; exact .inr h
    | cons x l ih =>
      intro o h
      rcases ih (minO o x) h with h1 | h1
      · exact .inl (List.mem_cons_of_mem _ h1)
      · cases o with
        | none => exact .inl (by have : x = m := Option.some.inj h1; rw [this]; exact List.mem_cons_self)
        | some b =>
          have h2 : min b x = m := Option.some.inj h1
          by_cases hb : b ≤ x
          · right; rw [show b = m by omega]
          · left; rw [show x = m by omega]; exact List.mem_cons_self
  rcases key l none h with h1 | h1
  · exact h1
  · cases h1
theorem leastO_same {l l' : List Nat} (h : ∀ x, x ∈ l ↔ x ∈ l') : leastO l = leastO l' := by
  cases e : leastO l with
  | none =>
    cases e' : leastO l' with
    | none => rfl
    | some m' =>
      obtain ⟨m, e2, _⟩ := leastO_le ((h m').2 (leastO_mem e'))
      rw [e] at e2; cases e2
  | some m =>
    obtain ⟨m', e', h1⟩ := leastO_le ((h m).1 (leastO_mem e))
    obtain ⟨m2, e2, h2⟩ := leastO_le ((h m').2 (leastO_mem e'))
    rw [e] at e2
    cases e2
    rw [e', show m' = m by omega]

/-! # maps of grids -/
structure Sy (h wd h' wd' : Nat) (g g' : Nat → Nat → Nat) (f : Rc → Rc) (fc : Nat × Nat → Nat × Nat) : Prop where
  fit : ∀ R : Rc, R.Fit h wd → (f R).Fit h' wd' ∧ (f R).h + (f R).w = R.h + R.w
  one : ∀ R : Rc, R.Fit h wd → (f R).one g' = R.one g
  cut : ∀ (R : Rc) (c : Nat × Nat), R.Fit h wd → c ∈ R.cuts g → fc c ∈ (f R).cuts g' ∧ (((f R).left (fc c) = f (R.left c) ∧ (f R).right (fc c) = f (R.right c)) ∨ ((f R).left (fc c) = f (R.right c) ∧ (f R).right (fc c) = f (R.left c)))
  sur : ∀ (R : Rc) (c' : Nat × Nat), R.Fit h wd → c' ∈ (f R).cuts g' → ∃ c, c ∈ R.cuts g ∧ fc c = c'
  inj : ∀ (R : Rc) (c c2 : Nat × Nat), R.Fit h wd → c ∈ R.cuts g → c2 ∈ R.cuts g → fc c = fc c2 → c = c2
theorem Sy.deep {h wd h' wd' : Nat} {g g' : Nat → Nat → Nat} {f : Rc → Rc} {fc : Nat × Nat → Nat × Nat} (S : Sy h wd h' wd' g g' f fc) : ∀ (n : Nat) (R : Rc), R.Fit h wd → (f R).deep g' n = R.deep g n
  | 0, _, _ => rfl
  | n + 1, R, F => by
    cases h1 : R.one g
    · rw [Rc.deep_cut h1, Rc.deep_cut (by rw [S.one R F]; exact h1)]
      congr 1
      have key : ∀ c, c ∈ R.cuts g → 1 + max (((f R).left (fc c)).deep g' n) (((f R).right (fc c)).deep g' n) = 1 + max ((R.left c).deep g n) ((R.right c).deep g n) := fun c hc => by
        have hm := Rc.cuts_mem hc
        have e1 := S.deep n _ (Rc.fit_left F hm.2.1).1
        have e2 := S.deep n _ (Rc.fit_right F hm.2.1).1
        rcases (S.cut R c F hc).2 with ⟨a, b⟩ | ⟨a, b⟩
        · rw [a, b, e1, e2]
        · rw [a, b, e1, e2, Nat.max_comm]
      refine leastO_same fun x => ?_
      rw [List.mem_map, List.mem_map]
      constructor
      · rintro ⟨c', hc', rfl⟩
        obtain ⟨c, hc, rfl⟩ := S.sur R c' F hc'
        exact ⟨c, hc, (key c hc).symm⟩
      · rintro ⟨c, hc, rfl⟩
        exact ⟨fc c, (S.cut R c F hc).1, key c hc⟩
    · rw [Rc.deep_one h1, Rc.deep_one (by rw [S.one R F]; exact h1)]
theorem cuts_nodup (g : Nat → Nat → Nat) (R : Rc) : (R.cuts g).Nodup := List.Nodup.sublist List.filter_sublist (by decide : linesC.Nodup)
theorem Sy.ways {h wd h' wd' : Nat} {g g' : Nat → Nat → Nat} {f : Rc → Rc} {fc : Nat × Nat → Nat × Nat} (S : Sy h wd h' wd' g g' f fc) : ∀ (n : Nat) (R : Rc), R.Fit h wd → (f R).ways g' n = R.ways g n
  | 0, _, _ => rfl
  | n + 1, R, F => by
    cases h1 : R.one g
    · rw [Rc.ways_cut h1, Rc.ways_cut (by rw [S.one R F]; exact h1)]
      have key : ∀ c, c ∈ R.cuts g → ((f R).left (fc c)).ways g' n * ((f R).right (fc c)).ways g' n = (R.left c).ways g n * (R.right c).ways g n := fun c hc => by
        have hm := Rc.cuts_mem hc
        have e1 := S.ways n _ (Rc.fit_left F hm.2.1).1
        have e2 := S.ways n _ (Rc.fit_right F hm.2.1).1
        rcases (S.cut R c F hc).2 with ⟨a, b⟩ | ⟨a, b⟩
        · rw [a, b, e1, e2]
        · rw [a, b, e1, e2, Nat.mul_comm]
      have hp : List.Perm ((f R).cuts g') ((R.cuts g).map fc) := by
        rw [List.perm_ext_iff_of_nodup (cuts_nodup _ _) (List.Pairwise.map fc (R := fun a b => a ∈ R.cuts g ∧ b ∈ R.cuts g ∧ a ≠ b) (fun a b hab he => hab.2.2 (S.inj R a b F hab.1 hab.2.1 he)) (List.Pairwise.imp_of_mem (fun {a b} ha hb hne => ⟨ha, hb, hne⟩) (cuts_nodup g R)))]
        intro x
        rw [List.mem_map]
        constructor
        · intro hx
          obtain ⟨c, hc, e⟩ := S.sur R x F hx
          exact ⟨c, hc, e⟩
        · rintro ⟨c, hc, rfl⟩
          exact (S.cut R c F hc).1
      rw [(hp.map _).sum_nat, List.map_map]
      congr 1
      exact List.map_congr_left fun c hc => key c hc
    · rw [Rc.ways_one h1, Rc.ways_one (by rw [S.one R F]; exact h1)]
theorem Sy.gui {h wd h' wd' : Nat} {g g' : Nat → Nat → Nat} {f : Rc → Rc} {fc : Nat × Nat → Nat × Nat} (S : Sy h wd h' wd' g g' f fc) (hh : h ≤ 6) (hw : wd ≤ 6) {R : Rc} (G : Gui g R) : R.Fit h wd → Gui g' (f R) := by
  induction G with
  | one R h1 => intro F; exact .one _ (by rw [S.one R F]; exact h1)
  | cut R c a b d _ _ ih1 ih2 =>
    intro F
    have hc := Rc.mem_cuts F hh hw a b d
    have i1 := ih1 (Rc.fit_left F b).1
    have i2 := ih2 (Rc.fit_right F b).1
    obtain ⟨hc', hp⟩ := S.cut R c F hc
    have hm := Rc.cuts_mem hc'
    rcases hp with ⟨e1, e2⟩ | ⟨e1, e2⟩
    · exact .cut _ (fc c) hm.1 hm.2.1 hm.2.2 (by rw [e1]; exact i1) (by rw [e2]; exact i2)
    · exact .cut _ (fc c) hm.1 hm.2.1 hm.2.2 (by rw [e1]; exact i2) (by rw [e2]; exact i1)

/-! # turned -/
def turnR (h : Nat) (R : Rc) : Rc := ⟨R.c0, R.w, h - (R.r0 + R.h), R.h⟩
def turnC (h : Nat) (c : Nat × Nat) : Nat × Nat := if c.1 = 0 then (1, c.2) else (0, h - c.2)
theorem sy_turn {h wd : Nat} {g g' : Nat → Nat → Nat} (hh : h ≤ 6) (hw : wd ≤ 6) (T : SameG wd h (fun i j => g (h - 1 - j) i) g') : Sy h wd wd h g g' (turnR h) (turnC h) where
  fit R F := by
    obtain ⟨a, b, c, d⟩ := F
    exact ⟨⟨b, a, d, by show h - (R.r0 + R.h) + R.h ≤ h; omega⟩, by show R.w + R.h = _; omega⟩
  one R F := by
    obtain ⟨a, b, c, d⟩ := F
    rw [Bool.eq_iff_iff, Rc.one_iff, Rc.one_iff]
    have ht : ∀ i j, R.has i j → (turnR h R).has j (h - 1 - i) := fun i j hij => by
      obtain ⟨h1, h2, h3, h4⟩ := hij
      exact ⟨h3, h4, by show h - (R.r0 + R.h) ≤ _; omega, by show _ < h - (R.r0 + R.h) + R.h; omega⟩
    constructor
    · intro H i j hij
      have h1 := ht i j hij
      have h2 := ht R.r0 R.c0 ⟨by omega, by omega, by omega, by omega⟩
      have e1 := (H _ _ h1).trans (H _ _ h2).symm
      obtain ⟨x1, x2, x3, x4⟩ := hij
      have := (T R.c0 (h - 1 - R.r0) j (h - 1 - i) (by omega) (by omega) (by omega) (by omega)).1 e1
      simp only at this
      rwa [show h - 1 - (h - 1 - i) = i by omega, show h - 1 - (h - 1 - R.r0) = R.r0 by omega] at this
    · intro H i j hij
      obtain ⟨x1, x2, x3, x4⟩ := hij
      have y1 : R.c0 ≤ i := x1
      have y2 : i < R.c0 + R.w := x2
      have y3 : h - (R.r0 + R.h) ≤ j := x3
      have y4 : j < h - (R.r0 + R.h) + R.h := x4
      show g' i j = g' R.c0 (h - (R.r0 + R.h))
      refine (T _ _ _ _ (by omega) (by omega) (by omega) (by omega)).2 ?_
      show g (h - 1 - j) i = g (h - 1 - (h - (R.r0 + R.h))) R.c0
      rw [H (h - 1 - j) i ⟨by omega, by omega, y1, y2⟩, H (h - 1 - (h - (R.r0 + R.h))) R.c0 ⟨by omega, by omega, by omega, by omega⟩]
  cut R c F hc := by
    have hm := Rc.cuts_mem hc
    have F' : (turnR h R).Fit wd h := by
      obtain ⟨a, b, c, d⟩ := F
      exact ⟨b, a, d, by show h - (R.r0 + R.h) + R.h ≤ h; omega⟩
    have f1 := F.h1; have f2 := F.w1; have f3 := F.hh; have f4 := F.hw
    by_cases h0 : c.1 = 0
    · have hi := (Rc.ins_up h0).1 hm.2.1
      have hf := (Rc.free_up h0).1 hm.2.2
      have e : turnC h c = (1, c.2) := if_pos h0
      rw [e]
      refine ⟨Rc.mem_cuts F' hw hh (by simp) ((Rc.ins_lv (by simp)).2 hi) ((Rc.free_lv (by simp)).2 fun j y1 y2 he => ?_), .inl ⟨?_, ?_⟩⟩
      · have z1 : h - (R.r0 + R.h) ≤ j := y1
        have z2 : j < h - (R.r0 + R.h) + R.h := y2
        have := (T c.2 j (c.2 - 1) j (by omega) (by omega) (by omega) (by omega)).1 he
        exact hf (h - 1 - j) (by omega) (by omega) this
      · rw [Rc.left_lv (by simp), Rc.left_up h0]; rfl
      · rw [Rc.right_lv (by simp), Rc.right_up h0]; rfl
    · have hi := (Rc.ins_lv h0).1 hm.2.1
      have hf := (Rc.free_lv h0).1 hm.2.2
      have e : turnC h c = (0, h - c.2) := if_neg h0
      rw [e]
      refine ⟨Rc.mem_cuts F' hw hh (by simp) ((Rc.ins_up rfl).2 ⟨by show h - (R.r0 + R.h) < h - c.2; omega, by show h - c.2 < h - (R.r0 + R.h) + R.h; omega⟩) ((Rc.free_up rfl).2 fun i y1 y2 he => ?_), .inr ⟨?_, ?_⟩⟩
      · have z1 : R.c0 ≤ i := y1
        have z2 : i < R.c0 + R.w := y2
        have := (T i (h - c.2) i (h - c.2 - 1) (by omega) (by omega) (by omega) (by omega)).1 he
        simp only at this
        rw [show h - 1 - (h - c.2 - 1) = c.2 by omega, show h - 1 - (h - c.2) = c.2 - 1 by omega] at this
        exact hf i z1 z2 this.symm
      · rw [Rc.left_up rfl, Rc.right_lv h0]
        show Rc.mk R.c0 R.w (h - (R.r0 + R.h)) (h - c.2 - (h - (R.r0 + R.h))) = Rc.mk R.c0 R.w (h - (c.2 + (R.r0 + R.h - c.2))) (R.r0 + R.h - c.2)
        rw [Rc.mk.injEq]; omega
      · rw [Rc.right_up rfl, Rc.left_lv h0]
        show Rc.mk R.c0 R.w (h - c.2) (h - (R.r0 + R.h) + R.h - (h - c.2)) = Rc.mk R.c0 R.w (h - (R.r0 + (c.2 - R.r0))) (c.2 - R.r0)
        rw [Rc.mk.injEq]; omega
  sur R c' F hc := by
    have hm := Rc.cuts_mem hc
    have f1 := F.h1; have f2 := F.w1; have f3 := F.hh; have f4 := F.hw
    obtain ⟨way, line⟩ := c'
    rcases (show way = 0 ∨ way = 1 by have := hm.1; simp only at this; omega) with h0 | h0
    · subst h0
      have hi := (Rc.ins_up (c := (0, line)) rfl).1 hm.2.1
      have hf := (Rc.free_up (c := (0, line)) rfl).1 hm.2.2
      have z1 : h - (R.r0 + R.h) < line := hi.1
      have z2 : line < h - (R.r0 + R.h) + R.h := hi.2
      refine ⟨(1, h - line), Rc.mem_cuts F hh hw (by simp) ((Rc.ins_lv (by simp)).2 ⟨by show R.r0 < h - line; omega, by show h - line < _; omega⟩) ((Rc.free_lv (by simp)).2 fun j y1 y2 he => ?_), ?_⟩
      · refine hf j y1 y2 ((T _ _ _ _ (by omega) (by omega) (by omega) (by omega)).2 ?_)
        show g (h - 1 - (line - 1)) j = g (h - 1 - line) j
        have he' : g (h - line - 1) j = g (h - line) j := he
        rw [show h - 1 - (line - 1) = h - line by omega, show h - 1 - line = h - line - 1 by omega, he']
      · show (if (1 : Nat) = 0 then _ else ((0 : Nat), h - (h - line))) = _
        rw [if_neg (by simp), show h - (h - line) = line by omega]
    · subst h0
      have hi := (Rc.ins_lv (c := (1, line)) (by simp)).1 hm.2.1
      have hf := (Rc.free_lv (c := (1, line)) (by simp)).1 hm.2.2
      have z1 : R.c0 < line := hi.1
      have z2 : line < R.c0 + R.w := hi.2
      refine ⟨(0, line), Rc.mem_cuts F hh hw (by simp) ((Rc.ins_up rfl).2 ⟨z1, z2⟩) ((Rc.free_up rfl).2 fun i y1 y2 he => ?_), rfl⟩
      refine hf (h - 1 - i) (by show h - (R.r0 + R.h) ≤ _; omega) (by show _ < h - (R.r0 + R.h) + R.h; omega) ((T _ _ _ _ (by omega) (by omega) (by omega) (by omega)).2 ?_)
      show g (h - 1 - (h - 1 - i)) (line - 1) = g (h - 1 - (h - 1 - i)) line
      rw [show h - 1 - (h - 1 - i) = i by omega]
      exact he
  inj R c c2 F hc hc2 he := by
    have hm := Rc.cuts_mem hc; have hm2 := Rc.cuts_mem hc2
    have f3 := F.hh
    unfold turnC at he
    obtain ⟨way, line⟩ := c
    obtain ⟨way2, line2⟩ := c2
    simp only at he hm hm2
    by_cases h0 : way = 0
    · by_cases h02 : way2 = 0
      · rw [if_pos h0, if_pos h02, Prod.mk.injEq] at he
        rw [h0, h02, he.2]
      · rw [if_pos h0, if_neg h02, Prod.mk.injEq] at he
        exact absurd he.1 (by simp)
    · by_cases h02 : way2 = 0
      · rw [if_neg h0, if_pos h02, Prod.mk.injEq] at he
        exact absurd he.1 (by simp)
      · rw [if_neg h0, if_neg h02, Prod.mk.injEq] at he
        have i1 := (Rc.ins_lv (c := (way, line)) h0).1 hm.2.1
        have i2 := (Rc.ins_lv (c := (way2, line2)) h02).1 hm2.2.1
        simp only at i1 i2
        rw [Prod.mk.injEq]; omega

/-! # plans -/
theorem turn_sy {p : List ByteArray} (h : planB p = true) : Sy p.length (wideB p) (wideB p) p.length (gridG p) (gridG (namesB (turnB p))) (turnR p.length) (turnC p.length) :=
  sy_turn (planP_of h).grid.h6 (planP_of h).grid.w6 (is_turn h).same
theorem turn_all {p : List ByteArray} (h : planB p = true) : turnR p.length (allR p) = allR (namesB (turnB p)) := by
  unfold allR turnR
  rw [(is_turn h).len, (is_turn h).wide]
  show Rc.mk 0 (wideB p) (p.length - (0 + p.length)) p.length = _
  rw [Rc.mk.injEq]; omega
theorem gui_of {p : List ByteArray} (hT : (treeP p).isSome = true) : planB p = true ∧ Gui (gridG p) (allR p) := by
  have h : planB p = true := by
    cases hp : planB p
    · rw [treeP_no hp] at hT; cases hT
    · rfl
  refine ⟨h, ?_⟩
  rw [treeP_yes h] at hT
  obtain ⟨t, ht⟩ := Option.isSome_iff_exists.1 hT
  exact Gui.of_tree ht
/-- a turned plan is cut as deep, and in as many ways -/
theorem cut_turn {p : List ByteArray} (hT : (treeP p).isSome = true) : (treeP (namesB (turnB p))).isSome = true ∧ deepP (namesB (turnB p)) = deepP p ∧ waysP (namesB (turnB p)) = waysP p := by
  obtain ⟨h, G⟩ := gui_of hT
  have S := turn_sy h
  have hq := (is_turn h).plan
  have hg := (planP_of h).grid
  have G' := S.gui hg.h6 hg.w6 G (allR_fit h).1
  rw [turn_all h] at G'
  have hg' := (planP_of hq).grid
  obtain ⟨t, ht⟩ := Gui.tree hg'.h6 hg'.w6 (n := 12) (allR_fit hq).1 (allR_fit hq).2 G'
  have hT' : (treeP (namesB (turnB p))).isSome = true := by rw [treeP_yes hq, ht]; rfl
  refine ⟨hT', ?_, ?_⟩
  · unfold deepP
    rw [if_pos hT, if_pos hT', ← turn_all h]
    exact S.deep 12 _ (allR_fit h).1
  · unfold waysP
    rw [if_pos hT, if_pos hT', ← turn_all h]
    exact S.ways 12 _ (allR_fit h).1
theorem Boxy.deep_pow {h wd : Nat} {g : Nat → Nat → Nat} {r : Nat} {bx : Nat → Bx} (B : Boxy h wd g r bx) : ∀ (n : Nat) (R : Rc), R.Clo g h wd → R.h + R.w ≤ n → Gui g R → (R.rooms g r).length ≤ 2 ^ R.deep g n
  | 0, R, C, hn, _ => by have := C.fit.h1; omega
  | n + 1, R, C, hn, G => by
    cases h1 : R.one g
    · have hne : 0 < (R.cuts g).length := by
        cases G with
        | one _ h => rw [h1] at h; cases h
        | cut _ c a b d _ _ => exact List.length_pos_of_mem (Rc.mem_cuts C.fit B.hh B.hw a b d)
      obtain ⟨m, e, _⟩ := leastO_le (l := (R.cuts g).map fun c => 1 + max ((R.left c).deep g n) ((R.right c).deep g n)) (List.mem_map_of_mem (getD_mem (l := R.cuts g) (0, 0) hne))
      rw [Rc.deep_cut h1, e]
      show _ ≤ 2 ^ m
      have hmem := leastO_mem e
      rw [List.mem_map] at hmem
      obtain ⟨c, hc, rfl⟩ := hmem
      have hm := Rc.cuts_mem hc
      have f1 := Rc.fit_left C.fit hm.2.1; have f2 := Rc.fit_right C.fit hm.2.1
      have i1 := B.deep_pow n _ (C.left B.rect hm.2.1 hm.2.2) (by omega) (G.sub _ (Rc.left_sub hm.2.1) f1.1.h1 f1.1.w1)
      have i2 := B.deep_pow n _ (C.right B.rect hm.2.1 hm.2.2) (by omega) (G.sub _ (Rc.right_sub hm.2.1) f2.1.h1 f2.1.w1)
      rw [← B.rooms_add C hm.2.1 hm.2.2]
      generalize (R.left c).deep g n = x at *
      generalize (R.right c).deep g n = y at *
      have p1 := Nat.pow_le_pow_right (n := 2) (by omega) (Nat.le_max_left x y)
      have p2 := Nat.pow_le_pow_right (n := 2) (by omega) (Nat.le_max_right x y)
      rw [Nat.pow_add]
      omega
    · have hone := B.one_len C
      rw [h1] at hone
      rw [Rc.deep_one h1, of_decide_eq_true hone.symm]
      decide
theorem deep_math {p : List ByteArray} (hT : (treeP p).isSome = true) : planB p = true ∧ gridR p ≤ 9 ∧ deepP p + 1 ≤ gridR p ∧ gridR p ≤ 2 ^ deepP p := by
  obtain ⟨h, G⟩ := gui_of hT
  have B := boxy_of (planP_of h)
  have a := B.deep_few (n := 12) (allR_clo h) (allR_fit h).2 G
  have b := B.deep_pow 12 _ (allR_clo h) (allR_fit h).2 G
  rw [allR_rooms h, List.length_range] at a b
  unfold deepP
  rw [if_pos hT]
  exact ⟨h, (planP_of h).few, a, b⟩

end Go.Proofs.Ytcndlfkmmgdpaaa
