/-
  Parts without a cut have five rooms at least. (Plain mathematics.)
-/
import Derived.Test.YtpgcpmfemcfoaaaGui4Q
import Derived.Test.YtpgcpmfemcfoaaaLawKQ
import Derived.Test.YtpgcpmfemcfoaaaArgsQ
import Derived.Test.YtpgcpmfemcfoaaaRowQ
import Derived.Test.YtpgcpmfemcfoaaaNumsQ
import Derived.Test.YtpgcpmfemcfoaaaMeetQ
import Derived.ChangeSlices

namespace Go.Proofs.Ytpgcpmfemcfoaaa

theorem len_of_sub : ∀ (M L : List Nat), M.Nodup → (∀ x ∈ M, x ∈ L) → M.length ≤ L.length
  | [], _, _, _ => Nat.zero_le _
  | x :: M, L, hn, hs => by
    rw [List.nodup_cons] at hn
    have hx := hs x List.mem_cons_self
    have h1 := List.length_erase_of_mem hx
    have h2 := len_of_sub M (L.erase x) hn.2 (fun y hy => by
      have hne : y ≠ x := fun e => hn.1 (e ▸ hy)
      exact (List.mem_erase_of_ne hne).2 (hs y (List.mem_cons_of_mem _ hy)))
    have h3 := List.length_pos_of_mem hx
    rw [List.length_cons]
    omega
/-- where it is stuck: whole rooms, more than one, and no cut -/
theorem stuck_is {g : Nat → Nat → Nat} {h wd : Nat} (hr : RectG h wd g) : ∀ (n : Nat) (R S : Rc), R.Clo g h wd → R.stuck g n = some S → S.Clo g h wd ∧ S.one g = false ∧ S.cuts g = []
  | 0, _, _, _, hs => by cases hs
  | n + 1, R, S, C, hs => by
    cases h1 : R.one g
    · cases hc : (R.cuts g).head? with
      | none =>
        rw [Rc.stuck_no h1 hc] at hs
        cases hs
        exact ⟨C, h1, List.head?_eq_none_iff.1 hc⟩
      | some c =>
        obtain ⟨_, hi, hf⟩ := Rc.cuts_mem (head_cut hc)
        rw [Rc.stuck_cut h1 hc] at hs
        cases h2 : (R.left c).stuck g n with
        | some T =>
          rw [h2] at hs
          cases hs
          exact stuck_is hr n _ _ (C.left hr hi hf) h2
        | none =>
          rw [h2] at hs
          exact stuck_is hr n _ _ (C.right hr hi hf) hs
    · rw [Rc.stuck_one h1] at hs; cases hs

set_option maxHeartbeats 4000000 in
/-- a rectangle in which each line goes through a room, and no room takes it all: five rooms at least -/
theorem five_rooms {g : Nat → Nat → Nat} {h wd r : Nat} (hg : RectG h wd g) (hlt : ∀ i j, i < h → j < wd → g i j < r) (hh : h ≤ 6) (hw : wd ≤ 6) {S : Rc} (C : S.Clo g h wd) (h1 : S.one g = false) (hc : S.cuts g = []) : 5 ≤ (S.rooms g r).length := by
  have F := C.fit
  have f1 := F.h1; have f2 := F.w1; have f3 := F.hh; have f4 := F.hw
  -- each line goes through a room
  have up : ∀ k, S.c0 < k → k < S.c0 + S.w → ∃ i, S.r0 ≤ i ∧ i < S.r0 + S.h ∧ g i (k - 1) = g i k := fun k k1 k2 => by
    apply Classical.byContradiction
    intro hn
    have hm := Rc.mem_cuts (g := g) (c := (0, k)) F hh hw (by show 0 < 2; omega) ((Rc.ins_up rfl).2 ⟨k1, k2⟩) ((Rc.free_up rfl).2 fun i i1 i2 e => hn ⟨i, i1, i2, e⟩)
    rw [hc] at hm; cases hm
  have lv : ∀ k, S.r0 < k → k < S.r0 + S.h → ∃ j, S.c0 ≤ j ∧ j < S.c0 + S.w ∧ g (k - 1) j = g k j := fun k k1 k2 => by
    apply Classical.byContradiction
    intro hn
    have hm := Rc.mem_cuts (g := g) (c := (1, k)) F hh hw (by show 1 < 2; omega) ((Rc.ins_lv (by show ¬ 1 = 0; omega)).2 ⟨k1, k2⟩) ((Rc.free_lv (by show ¬ 1 = 0; omega)).2 fun i i1 i2 e => hn ⟨i, i1, i2, e⟩)
    rw [hc] at hm; cases hm
  have notone : ¬ ∀ i j, S.has i j → g i j = g S.r0 S.c0 := fun e => by rw [Rc.one_iff.2 e] at h1; cases h1
  -- a room's box
  have box : ∀ i j, S.has i j → ∃ a b c d, S.r0 ≤ a ∧ 1 ≤ b ∧ a + b ≤ S.r0 + S.h ∧ S.c0 ≤ c ∧ 1 ≤ d ∧ c + d ≤ S.c0 + S.w ∧ (a ≤ i ∧ i < a + b ∧ c ≤ j ∧ j < c + d) ∧ ∀ x y, S.has x y → (g x y = g i j ↔ a ≤ x ∧ x < a + b ∧ c ≤ y ∧ y < c + d) := fun i j hij => by
    obtain ⟨gi, gj⟩ := C.in_grid hij
    obtain ⟨row, col, hi', wi, q1, q2, hr⟩ := hg i j gi gj
    have here := (hr i j gi gj).1 rfl
    unfold InR at here
    have inS : ∀ x y, row ≤ x → x < row + hi' → col ≤ y → y < col + wi → S.has x y := fun x y x1 x2 y1 y2 =>
      C.clo i j x y hij (by omega) (by omega) ((hr x y (by omega) (by omega)).2 (by unfold InR; omega))
    obtain ⟨t1, t2, t3, t4⟩ := inS row col (by omega) (by omega) (by omega) (by omega)
    obtain ⟨u1, u2, u3, u4⟩ := inS (row + hi' - 1) (col + wi - 1) (by omega) (by omega) (by omega) (by omega)
    refine ⟨row, hi', col, wi, t1, by omega, by omega, t3, by omega, by omega, by omega, fun x y hxy => ?_⟩
    obtain ⟨gx, gy⟩ := C.in_grid hxy
    rw [hr x y gx gy]
    unfold InR
    omega
  have has : ∀ {i j}, S.r0 ≤ i → i < S.r0 + S.h → S.c0 ≤ j → j < S.c0 + S.w → S.has i j := fun a b c d => ⟨a, b, c, d⟩
  have cA : S.has S.r0 S.c0 := has (by omega) (by omega) (by omega) (by omega)
  have cB : S.has S.r0 (S.c0 + S.w - 1) := has (by omega) (by omega) (by omega) (by omega)
  have cC : S.has (S.r0 + S.h - 1) S.c0 := has (by omega) (by omega) (by omega) (by omega)
  have cD : S.has (S.r0 + S.h - 1) (S.c0 + S.w - 1) := has (by omega) (by omega) (by omega) (by omega)
  obtain ⟨a1, a2, a3, a4, A1, A2, A3, A4, A5, A6, A7, hA⟩ := box _ _ cA
  obtain ⟨b1, b2, b3, b4, B1, B2, B3, B4, B5, B6, B7, hB⟩ := box _ _ cB
  obtain ⟨c1, c2, c3, c4, C1, C2, C3, C4, C5, C6, C7, hC⟩ := box _ _ cC
  obtain ⟨d1, d2, d3, d4, D1, D2, D3, D4, D5, D6, D7, hD⟩ := box _ _ cD
  -- no room covers two corners
  have full : ∀ x y, S.has x y → ∀ a b c d, (∀ i j, S.has i j → (g i j = g x y ↔ a ≤ i ∧ i < a + b ∧ c ≤ j ∧ j < c + d)) → S.r0 ≤ a → 1 ≤ b → a + b ≤ S.r0 + S.h → S.c0 ≤ c → 1 ≤ d → c + d ≤ S.c0 + S.w →
      ¬ (c = S.c0 ∧ c + d = S.c0 + S.w) ∧ ¬ (a = S.r0 ∧ a + b = S.r0 + S.h) := fun x y hxy a b c d hb p1 p2 p3 p4 p5 p6 => by
    have whole : ¬ ((c = S.c0 ∧ c + d = S.c0 + S.w) ∧ (a = S.r0 ∧ a + b = S.r0 + S.h)) := fun ⟨⟨e1, e2⟩, e3, e4⟩ =>
      notone fun i j hij => by
        obtain ⟨q1, q2, q3, q4⟩ := hij
        rw [(hb i j ⟨q1, q2, q3, q4⟩).2 (by omega), (hb S.r0 S.c0 cA).2 (by omega)]
    constructor
    · rintro ⟨e1, e2⟩
      by_cases e3 : a = S.r0
      · have hk : a + b < S.r0 + S.h := by
          apply Classical.byContradiction; intro hn; exact whole ⟨⟨e1, e2⟩, e3, by omega⟩
        obtain ⟨j, j1, j2, e⟩ := lv (a + b) (by omega) hk
        have k1 := (hb (a + b - 1) j (has (by omega) (by omega) j1 j2)).2 (by omega)
        rw [e] at k1
        have k2 := (hb (a + b) j (has (by omega) (by omega) j1 j2)).1 k1
        omega
      · obtain ⟨j, j1, j2, e⟩ := lv a (by omega) (by omega)
        have k1 := (hb a j (has (by omega) (by omega) j1 j2)).2 (by omega)
        rw [← e] at k1
        have k2 := (hb (a - 1) j (has (by omega) (by omega) j1 j2)).1 k1
        omega
    · rintro ⟨e1, e2⟩
      by_cases e3 : c = S.c0
      · have hk : c + d < S.c0 + S.w := by
          apply Classical.byContradiction; intro hn; exact whole ⟨⟨e3, by omega⟩, e1, e2⟩
        obtain ⟨i, i1, i2, e⟩ := up (c + d) (by omega) hk
        have k1 := (hb i (c + d - 1) (has i1 i2 (by omega) (by omega))).2 (by omega)
        rw [e] at k1
        have k2 := (hb i (c + d) (has i1 i2 (by omega) (by omega))).1 k1
        omega
      · obtain ⟨i, i1, i2, e⟩ := up c (by omega) (by omega)
        have k1 := (hb i c (has i1 i2 (by omega) (by omega))).2 (by omega)
        rw [← e] at k1
        have k2 := (hb i (c - 1) (has i1 i2 (by omega) (by omega))).1 k1
        omega
  have FA := full _ _ cA a1 a2 a3 a4 hA A1 A2 A3 A4 A5 A6
  have FB := full _ _ cB b1 b2 b3 b4 hB B1 B2 B3 B4 B5 B6
  have FC := full _ _ cC c1 c2 c3 c4 hC C1 C2 C3 C4 C5 C6
  have FD := full _ _ cD d1 d2 d3 d4 hD D1 D2 D3 D4 D5 D6
  have nAB : g S.r0 S.c0 ≠ g S.r0 (S.c0 + S.w - 1) := fun e => by have := (hB _ _ cA).1 e; omega
  have nAC : g S.r0 S.c0 ≠ g (S.r0 + S.h - 1) S.c0 := fun e => by have := (hC _ _ cA).1 e; omega
  have nAD : g S.r0 S.c0 ≠ g (S.r0 + S.h - 1) (S.c0 + S.w - 1) := fun e => by have := (hD _ _ cA).1 e; omega
  have nBC : g S.r0 (S.c0 + S.w - 1) ≠ g (S.r0 + S.h - 1) S.c0 := fun e => by have := (hC _ _ cB).1 e; omega
  have nBD : g S.r0 (S.c0 + S.w - 1) ≠ g (S.r0 + S.h - 1) (S.c0 + S.w - 1) := fun e => by have := (hD _ _ cB).1 e; omega
  have nCD : g (S.r0 + S.h - 1) S.c0 ≠ g (S.r0 + S.h - 1) (S.c0 + S.w - 1) := fun e => by have := (hD _ _ cC).1 e; omega
  have mem : ∀ i j, S.has i j → g i j ∈ S.rooms g r := fun i j hij => by
    rw [Rc.mem_rooms, Rc.room_iff]
    obtain ⟨q1, q2⟩ := C.in_grid hij
    exact ⟨hlt i j q1 q2, i, j, hij, rfl⟩
  apply Classical.byContradiction
  intro hfew
  -- then there are these four alone
  have four : ∀ i j, S.has i j → g i j = g S.r0 S.c0 ∨ g i j = g S.r0 (S.c0 + S.w - 1) ∨ g i j = g (S.r0 + S.h - 1) S.c0 ∨ g i j = g (S.r0 + S.h - 1) (S.c0 + S.w - 1) := fun i j hij => by
    apply Classical.byContradiction
    intro hn
    have n1 : g i j ≠ g S.r0 S.c0 := fun e => hn (.inl e)
    have n2 : g i j ≠ g S.r0 (S.c0 + S.w - 1) := fun e => hn (.inr (.inl e))
    have n3 : g i j ≠ g (S.r0 + S.h - 1) S.c0 := fun e => hn (.inr (.inr (.inl e)))
    have n4 : g i j ≠ g (S.r0 + S.h - 1) (S.c0 + S.w - 1) := fun e => hn (.inr (.inr (.inr e)))
    have := len_of_sub [g i j, g S.r0 S.c0, g S.r0 (S.c0 + S.w - 1), g (S.r0 + S.h - 1) S.c0, g (S.r0 + S.h - 1) (S.c0 + S.w - 1)] (S.rooms g r) (by
      simp only [List.nodup_cons, List.mem_cons, List.not_mem_nil, or_false, not_or, List.nodup_nil, and_true, not_false_eq_true]
      exact ⟨⟨n1, n2, n3, n4⟩, ⟨nAB, nAC, nAD⟩, ⟨nBC, nBD⟩, nCD⟩) (fun x hx => by
      simp only [List.mem_cons, List.not_mem_nil, or_false] at hx
      rcases hx with rfl | rfl | rfl | rfl | rfl
      · exact mem _ _ hij
      · exact mem _ _ cA
      · exact mem _ _ cB
      · exact mem _ _ cC
      · exact mem _ _ cD)
    exact hfew this
  have cov : ∀ i j, S.r0 ≤ i → i < S.r0 + S.h → S.c0 ≤ j → j < S.c0 + S.w → (a1 ≤ i ∧ i < a1 + a2 ∧ a3 ≤ j ∧ j < a3 + a4) ∨ (b1 ≤ i ∧ i < b1 + b2 ∧ b3 ≤ j ∧ j < b3 + b4) ∨ (c1 ≤ i ∧ i < c1 + c2 ∧ c3 ≤ j ∧ j < c3 + c4) ∨ (d1 ≤ i ∧ i < d1 + d2 ∧ d3 ≤ j ∧ j < d3 + d4) := fun i j q1 q2 q3 q4 => by
    have hij := has q1 q2 q3 q4
    rcases four i j hij with e | e | e | e
    · exact .inl ((hA i j hij).1 e)
    · exact .inr (.inl ((hB i j hij).1 e))
    · exact .inr (.inr (.inl ((hC i j hij).1 e)))
    · exact .inr (.inr (.inr ((hD i j hij).1 e)))
  have dAB : ∀ i j, S.has i j → (a1 ≤ i ∧ i < a1 + a2 ∧ a3 ≤ j ∧ j < a3 + a4) → (b1 ≤ i ∧ i < b1 + b2 ∧ b3 ≤ j ∧ j < b3 + b4) → False := fun i j hij p q => nAB (((hA i j hij).2 p).symm.trans ((hB i j hij).2 q))
  have dAC : ∀ i j, S.has i j → (a1 ≤ i ∧ i < a1 + a2 ∧ a3 ≤ j ∧ j < a3 + a4) → (c1 ≤ i ∧ i < c1 + c2 ∧ c3 ≤ j ∧ j < c3 + c4) → False := fun i j hij p q => nAC (((hA i j hij).2 p).symm.trans ((hC i j hij).2 q))
  have dAD : ∀ i j, S.has i j → (a1 ≤ i ∧ i < a1 + a2 ∧ a3 ≤ j ∧ j < a3 + a4) → (d1 ≤ i ∧ i < d1 + d2 ∧ d3 ≤ j ∧ j < d3 + d4) → False := fun i j hij p q => nAD (((hA i j hij).2 p).symm.trans ((hD i j hij).2 q))
  have dBC : ∀ i j, S.has i j → (b1 ≤ i ∧ i < b1 + b2 ∧ b3 ≤ j ∧ j < b3 + b4) → (c1 ≤ i ∧ i < c1 + c2 ∧ c3 ≤ j ∧ j < c3 + c4) → False := fun i j hij p q => nBC (((hB i j hij).2 p).symm.trans ((hC i j hij).2 q))
  have dBD : ∀ i j, S.has i j → (b1 ≤ i ∧ i < b1 + b2 ∧ b3 ≤ j ∧ j < b3 + b4) → (d1 ≤ i ∧ i < d1 + d2 ∧ d3 ≤ j ∧ j < d3 + d4) → False := fun i j hij p q => nBD (((hB i j hij).2 p).symm.trans ((hD i j hij).2 q))
  have dCD : ∀ i j, S.has i j → (c1 ≤ i ∧ i < c1 + c2 ∧ c3 ≤ j ∧ j < c3 + c4) → (d1 ≤ i ∧ i < d1 + d2 ∧ d3 ≤ j ∧ j < d3 + d4) → False := fun i j hij p q => nCD (((hC i j hij).2 p).symm.trans ((hD i j hij).2 q))
  clear hfew four mem nAB nAC nAD nBC nBD nCD FA FB FC FD full
  -- the boxes meet along the sides
  have eT : b3 = a3 + a4 := by
    rcases Nat.lt_trichotomy b3 (a3 + a4) with k | k | k
    · exact (dAB S.r0 b3 (has (by omega) (by omega) (by omega) (by omega)) (by omega) (by omega)).elim
    · exact k
    · rcases cov S.r0 (a3 + a4) (by omega) (by omega) (by omega) (by omega) with q | q | q | q
      · omega
      · omega
      · exact (dAC S.r0 S.c0 cA (by omega) (by omega)).elim
      · exact (dBD S.r0 (S.c0 + S.w - 1) cB (by omega) (by omega)).elim
  have eB : d3 = c3 + c4 := by
    rcases Nat.lt_trichotomy d3 (c3 + c4) with k | k | k
    · exact (dCD (S.r0 + S.h - 1) d3 (has (by omega) (by omega) (by omega) (by omega)) (by omega) (by omega)).elim
    · exact k
    · rcases cov (S.r0 + S.h - 1) (c3 + c4) (by omega) (by omega) (by omega) (by omega) with q | q | q | q
      · exact (dAC (S.r0 + S.h - 1) S.c0 cC (by omega) (by omega)).elim
      · exact (dBD (S.r0 + S.h - 1) (S.c0 + S.w - 1) cD (by omega) (by omega)).elim
      · omega
      · omega
  have eL : c1 = a1 + a2 := by
    rcases Nat.lt_trichotomy c1 (a1 + a2) with k | k | k
    · exact (dAC c1 S.c0 (has (by omega) (by omega) (by omega) (by omega)) (by omega) (by omega)).elim
    · exact k
    · rcases cov (a1 + a2) S.c0 (by omega) (by omega) (by omega) (by omega) with q | q | q | q
      · omega
      · exact (dAB S.r0 S.c0 cA (by omega) (by omega)).elim
      · omega
      · exact (dCD (S.r0 + S.h - 1) S.c0 cC (by omega) (by omega)).elim
  have eR : d1 = b1 + b2 := by
    rcases Nat.lt_trichotomy d1 (b1 + b2) with k | k | k
    · exact (dBD d1 (S.c0 + S.w - 1) (has (by omega) (by omega) (by omega) (by omega)) (by omega) (by omega)).elim
    · exact k
    · rcases cov (b1 + b2) (S.c0 + S.w - 1) (by omega) (by omega) (by omega) (by omega) with q | q | q | q
      · exact (dAB S.r0 (S.c0 + S.w - 1) cB (by omega) (by omega)).elim
      · omega
      · exact (dCD (S.r0 + S.h - 1) (S.c0 + S.w - 1) cD (by omega) (by omega)).elim
      · omega
  -- a line through
  have level : c1 = d1 → False := fun e => by
    obtain ⟨j, j1, j2, ej⟩ := lv c1 (by omega) (by omega)
    have h1' := has (i := c1 - 1) (j := j) (by omega) (by omega) j1 j2
    have h2' := has (i := c1) (j := j) (by omega) (by omega) j1 j2
    rcases cov c1 j (by omega) (by omega) j1 j2 with q | q | q | q
    · omega
    · omega
    · have k1 := (hC _ _ h2').2 q
      rw [← ej] at k1
      have := (hC _ _ h1').1 k1
      omega
    · have k1 := (hD _ _ h2').2 q
      rw [← ej] at k1
      have := (hD _ _ h1').1 k1
      omega
  rcases Nat.lt_trichotomy b3 d3 with k | k | k
  · apply level
    rcases Nat.lt_trichotomy c1 d1 with m | m | m
    · exact (dBC c1 b3 (has (by omega) (by omega) (by omega) (by omega)) (by omega) (by omega)).elim
    · exact m
    · rcases cov d1 b3 (by omega) (by omega) (by omega) (by omega) with q | q | q | q <;> omega
  · obtain ⟨i, i1, i2, ei⟩ := up b3 (by omega) (by omega)
    have h1' := has (i := i) (j := b3 - 1) i1 i2 (by omega) (by omega)
    have h2' := has (i := i) (j := b3) i1 i2 (by omega) (by omega)
    rcases cov i b3 i1 i2 (by omega) (by omega) with q | q | q | q
    · omega
    · have k1 := (hB _ _ h2').2 q
      rw [← ei] at k1
      have := (hB _ _ h1').1 k1
      omega
    · omega
    · have k1 := (hD _ _ h2').2 q
      rw [← ei] at k1
      have := (hD _ _ h1').1 k1
      omega
  · apply level
    rcases Nat.lt_trichotomy c1 d1 with m | m | m
    · rcases cov c1 d3 (by omega) (by omega) (by omega) (by omega) with q | q | q | q <;> omega
    · exact m
    · exact (dAD d1 d3 (has (by omega) (by omega) (by omega) (by omega)) (by omega) (by omega)).elim
end Go.Proofs.Ytpgcpmfemcfoaaa
