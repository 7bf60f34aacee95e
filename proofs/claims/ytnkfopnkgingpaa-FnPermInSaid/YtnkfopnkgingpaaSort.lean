
/-
  Numbers put in order by the laws.
-/
import Derived.Test.YtnkfopnkgingpaaLaws
import Derived.Test.YtnkfopnkgingpaaDraw
import Derived.Test.YtnkfopnkgingpaaNests

/-
  A list put in order: the walk and its mathematics; areas of plans turned.
-/
namespace Go.Proofs.Ytnkfopnkgingpaa
open Go.RowKit

/-- numbers held in a row -/
def RowI (w : World) (g : Nat) (L : List Int) : Prop := ∃ cur, HeldB w g 3 cur ∧ ∀ j, j < L.length → cur[j]? = (L.map (Value.int .i64))[j]?
theorem RowI.cell {w : World} {g : Nat} {L : List Int} (h : RowI w g L) (j : Nat) (hj : j < L.length) : w.cell? ⟨g, j, none⟩ = some (.int .i64 (L.getD j 0)) := by
  obtain ⟨cur, h1, h2⟩ := h
  rw [h1.cell j, h2 j hj]
  simp [hj]
theorem RowI.frozen {w : World} {g : Nat} {L : List Int} (h : RowI w g L) (j : Nat) : w.frozen? ⟨g, j, none⟩ = false := by
  obtain ⟨cur, h1, h2⟩ := h
  exact h1.frozen j
theorem RowI.set {w : World} {g : Nat} {L : List Int} (h : RowI w g L) (i : Nat) (x : Int) : RowI (w.setCell ⟨g, i, none⟩ (.int .i64 x)) g (L.set i x) := by
  obtain ⟨cur, h1, h2⟩ := h
  refine ⟨_, h1.set i _, fun j hj => ?_⟩
  rw [List.length_set] at hj
  have h3 := h2 j hj
  have h4 : j < cur.size := by
    rcases Nat.lt_or_ge j cur.size with h5 | h5
    · exact h5
    · rw [Array.getElem?_eq_none h5, List.getElem?_eq_getElem (by rw [List.length_map]; exact hj)] at h3; cases h3
  rw [List.map_set, Array.getElem?_setIfInBounds, List.getElem?_set]
  split
  · rename_i h5; subst h5; rw [if_pos h4, if_pos (by rw [List.length_map]; exact hj)]
  · exact h3
theorem RowI.cells {w : World} {g : Nat} {L : List Int} (h : RowI w g L) : CellsAt w (some ⟨g, 0, none⟩) (L.map (Value.int .i64)) := fun j u hu => by
  obtain ⟨cur, h1, h2⟩ := h
  refine ⟨g, 0, rfl, ?_⟩
  have hj : j < L.length := by have := (List.getElem?_eq_some_iff.1 hu).1; rwa [List.length_map] at this
  rw [Nat.zero_add, h1.cell j, h2 j hj]; exact hu

/-- in order up to a place, but for one place whose number is not above those behind it -/
def OrdX (D : List Int) (k i : Nat) (x : Int) : Prop := (∀ a b, a < b → b ≤ i → a ≠ k → b ≠ k → D.getD a 0 ≤ D.getD b 0) ∧ (∀ b, k < b → b ≤ i → x ≤ D.getD b 0)
def OrdL (D : List Int) (i : Nat) : Prop := ∀ a b, a < b → b < i → D.getD a 0 ≤ D.getD b 0

theorem getD_set' (D : List Int) (i j : Nat) (x : Int) (hi : i < D.length) : (D.set i x).getD j 0 = if j = i then x else D.getD j 0 := by
  rw [List.getD_eq_getElem?_getD, List.getElem?_set]
  by_cases h : i = j
  · subst h; rw [if_pos rfl, if_pos hi, if_pos rfl]; rfl
  · rw [if_neg h, if_neg (fun e => h e.symm), List.getD_eq_getElem?_getD]
theorem set_self (L : List Int) (i : Nat) (hi : i < L.length) : L.set i (L.getD i 0) = L := by
  have : L.getD i 0 = L[i] := by simp [hi]
  rw [this]
  exact List.set_getElem_self hi
theorem ord_begin {L : List Int} {i : Nat} (h : OrdL L i) : OrdX L i i (L.getD i 0) :=
  ⟨fun a b h1 h2 h3 h4 => h a b h1 (by omega), fun b h1 h2 => by omega⟩
theorem ord_end {D : List Int} {k i : Nat} {x : Int} (h : OrdX D k i x) (hx : D.getD k 0 = x) (hk : k = 0 ∨ D.getD (k - 1) 0 ≤ x) : OrdL D (i + 1) := fun a b h1 h2 => by
  by_cases ha : a = k
  · subst ha; rw [hx]; exact h.2 b h1 (by omega)
  · by_cases hb : b = k
    · subst hb
      rw [hx]
      rcases hk with hk | hk
      · omega
      · by_cases h3 : a = b - 1
        · subst h3; exact hk
        · exact Int.le_trans (h.1 a (b - 1) (by omega) (by omega) ha (by omega)) hk
    · exact h.1 a b h1 (by omega) ha hb
theorem ord_step {D : List Int} {k i : Nat} {x y : Int} (h : OrdX D k i x) (hk : 0 < k) (hki : k ≤ i) (hi : i < D.length) (hy : D.getD (k - 1) 0 = y) (hx : x < y) :
    OrdX ((D.set k y).set (k - 1) x) (k - 1) i x := by
  have e : ∀ j, ((D.set k y).set (k - 1) x).getD j 0 = if j = k - 1 then x else if j = k then y else D.getD j 0 := fun j => by
    rw [getD_set' _ _ _ _ (by rw [List.length_set]; omega), getD_set' _ _ _ _ (by omega)]
  refine ⟨fun a b h1 h2 h3 h4 => ?_, fun b h1 h2 => ?_⟩
  · rw [e, e, if_neg h3, if_neg h4]
    by_cases ha : a = k
    · subst ha; rw [if_pos rfl, if_neg (by omega), ← hy]
      exact h.1 (a - 1) b (by omega) h2 (by omega) (by omega)
    · rw [if_neg ha]
      by_cases hb : b = k
      · subst hb; rw [if_pos rfl, ← hy]
        exact h.1 a (b - 1) (by omega) (by omega) ha (by omega)
      · rw [if_neg hb]; exact h.1 a b h1 h2 ha hb
  · rw [e, if_neg (by omega)]
    by_cases hb : b = k
    · rw [if_pos hb]; omega
    · rw [if_neg hb]; exact h.2 b (by omega) h2
theorem perm_step {D : List Int} {k : Nat} {x y : Int} (hk : 0 < k) (hl : k < D.length) (hx : D.getD k 0 = x) (hy : D.getD (k - 1) 0 = y) : ((D.set k y).set (k - 1) x).Perm D := by
  have := @List.set_set_perm Int D k (k - 1) hl (by omega)
  rw [show D[k] = x by rw [← hx]; simp [hl], show D[k - 1]'(by omega) = y by rw [← hy]; simp [show k - 1 < D.length by omega]] at this
  exact this
theorem pair_of {s : List Int} (h : OrdL s s.length) : s.Pairwise (· ≤ ·) := by
  rw [List.pairwise_iff_getElem]
  intro i j hi hj hij
  have := h i j hij hj
  simpa [hi, hj] using this
theorem sorted_same {s t a b : List Int} (h1 : s.Perm a) (h2 : t.Perm b) (hab : a.Perm b) (hs : s.Pairwise (· ≤ ·)) (ht : t.Pairwise (· ≤ ·)) : s = t :=
  List.Perm.eq_of_pairwise (le := (· ≤ ·)) (fun _ _ _ _ h1 h2 => Int.le_antisymm h1 h2) hs ht (h1.trans (hab.trans h2.symm))

set_option maxRecDepth 100000 in
set_option maxHeartbeats 4000000 in
theorem sorted_any (ao : Option Addr) (cap : Nat) (l : List Int) (w : World) (h1 : 1 ≤ l.length) (hl : l.length ≤ 100) (hc : CellsAt w ao (l.map (Value.int .i64))) :
    Calls Try.prog 19 #[.slice ao l.length cap] w
      fun e w' => ∃ (ro : Option Addr) (rc : Nat) (s : List Int), e = .returned (.slice ro s.length rc) ∧ CellsAt w' ro (s.map (Value.int .i64)) ∧ s.Perm l ∧ s.Pairwise (· ≤ ·) ∧ Below w.heap.size w w' := by
  obtain ⟨ii, hii, hiz, hi1, hi2⟩ := info_parts Try.infoNum
  obtain ⟨b, off, rfl, _⟩ := hc.int 0 h1
  have HCE := Lib.hid (show ∀ j v, (l.map (Value.int .i64))[j]? = some v → (w.alloc (.cells #[] 3)).cell? ⟨b, off + j, none⟩ = some v from fun j v hv => by
    obtain ⟨b', o', he, hcc⟩ := (hc.below (below_alloc w (.cells #[] 3))) j v hv
    simp only [Option.some.injEq, Addr.mk.injEq, and_true] at he
    obtain ⟨rfl, rfl⟩ := he
    exact hcc)
  have hone : ∀ v ∈ l.map (Value.int .i64), v.oneCell' = true := fun v hv => by rw [List.mem_map] at hv; obtain ⟨z, _, rfl⟩ := hv; rfl
  have HON := Lib.hid hone; clear hone hc
  go_enter Try.func19, Try.ntmps19
  go_wp2_with (at_builtin; (refine wpList_pushK _ rfl _ _ 23 rfl w.heap.size 3 ii (.int .i64 0) 1 8 Try.underlying23 hii hiz hi1 hi2 rfl (by decide) (some ⟨w.heap.size, 0, none⟩) 0 0 _ rfl (World.ownsRow_made w #[] 0 (Nat.le_refl _) (Nat.zero_le _) rfl) (l.map (Value.int .i64)) l.length b off cap rfl h1 (by simp) HCE.out HON.out (by unfold maxLen; omega) (by omega) (by simp) ?_); intro lo lc w5 hown5 hg5 hnew5)
  obtain ⟨g, cur, rfl, hgb, hH, hcur⟩ := open_row hown5 (by omega)
  have hB5 := below_of_grownBy' (below_alloc w (.cells #[] 3)) hg5 (fun a ha => by cases ha; exact Nat.le_refl _)
  have hR5 : RowI w5 g l := ⟨cur, hH, fun j hj => by have := hcur j (by omega); rwa [List.nil_append] at this⟩
  clear hown5 hg5 hnew5 hcur hH
  obtain ⟨n, hn⟩ : ∃ n, l.length = n := ⟨_, rfl⟩
  rw [hn] at h1 hl
  simp only [hn]
  have HN := Lib.hid hn; clear hn
  go_loopw [4, 5, 6] (fun vi _ _ wr => ∃ (i : Nat) (L : List Int), 1 ≤ i ∧ i ≤ n ∧ vi = .int .i64 i ∧ L.length = n ∧ L.Perm l ∧ OrdL L i ∧ RowI wr g L ∧ Below w.heap.size w wr) (fun vi _ _ _ => n - (intOf vi).toNat)
  case atStart => exact ⟨1, l, Nat.le_refl _, h1, rfl, HN.out, List.Perm.refl _, fun a b h1 h2 => by omega, hR5, hB5⟩
  case round =>
    clear hR5 hB5
    obtain ⟨i, L, hi1, hi, rfl, hln, hpm, hord, hR, hB⟩ := hrel
    have HLN := Lib.hid hln; have HPM := Lib.hid hpm; have HORD := Lib.hid hord; have HR := Lib.hid hR
    by_cases hlt : i < n
    · have hlt' : decide ((i : Int) < (n : Int)) = true := by rw [decide_eq_true_eq]; omega
      have ci := hR.cell i (by omega)
      have HX := Lib.hid (ord_begin hord)
      have HS := Lib.hid (show L.set i (L.getD i 0) = L from set_self L i (by omega))
      clear hln hpm hord hR
      generalize L.getD i 0 = x at *
      go_wp2
      go_loopw [6] (fun vk wm => ∃ (k : Nat) (C : List Int), k ≤ i ∧ vk = .int .i64 k ∧ C.length = n ∧ OrdX (C.set k x) k i x ∧ (C.set k x).Perm L ∧ RowI wm g C ∧ Below w.heap.size w wm) (fun vk _ => (intOf vk).toNat)
      case atStart => exact ⟨i, L, Nat.le_refl _, rfl, HLN.out, by rw [HS.out]; exact HX.out, by rw [HS.out], HR.out, hB⟩
      case round =>
        clear hB ci
        obtain ⟨k, C, hk, rfl, hcn, hox, hpc, hRC, hB⟩ := hrel
        have fk := hRC.frozen k
        have hkn : k < C.length := by omega
        have ck := hRC.cell k hkn
        obtain ⟨z, hz⟩ : ∃ z, C.getD k 0 = z := ⟨_, rfl⟩
        rw [hz] at ck
        clear hz
        have hxk : (C.set k x).getD k 0 = x := by rw [getD_set' _ _ _ _ hkn, if_pos rfl]
        have hR2 := hRC.set k x
        have hB2 := hB.setCell (p := ⟨g, k, none⟩) hgb (.int .i64 x)
        by_cases h0 : k = 0
        · have HE := Lib.hid (ord_end hox hxk (.inl h0))
          have HP := Lib.hid hpc; have HR2 := Lib.hid hR2; have HCN := Lib.hid hcn
          clear hox hxk hpc hRC hR2 hcn hkn
          subst h0
          go_wp2
          go_roundw
          case rel => exact ⟨i + 1, C.set 0 x, by omega, by omega, by go_num, by rw [List.length_set]; exact HCN.out, HP.out.trans HPM.out, HE.out, HR2.out, hB2⟩
          case measure => simp [intOf]; omega
        · obtain ⟨m, hm⟩ : ∃ m, k - 1 = m := ⟨_, rfl⟩
          have hk1 : (k : Int) - 1 = (m : Int) := by omega
          have hk0 : decide ((0 : Int) < (k : Int)) = true := by rw [decide_eq_true_eq]; omega
          have hmn : m < n := by omega
          have cm := hRC.cell m (by omega)
          obtain ⟨y, hy⟩ : ∃ y, C.getD m 0 = y := ⟨_, rfl⟩
          rw [hy] at cm
          have hyk : (C.set k x).getD (k - 1) 0 = y := by rw [getD_set' _ _ _ _ hkn, if_neg (by omega), hm]; exact hy
          by_cases hxy : x < y
          · have hd : decide (x < y) = true := decide_eq_true hxy
            have hRy := hRC.set k y
            have hBy := hB.setCell (p := ⟨g, k, none⟩) hgb (.int .i64 y)
            have e1 : (C.set k y).set m x = ((C.set k x).set k y).set (k - 1) x := by rw [List.set_set, hm]
            have HO := Lib.hid (show OrdX ((C.set k y).set m x) m i x by rw [e1, ← hm]; exact ord_step hox (by omega) hk (by rw [List.length_set]; omega) hyk hxy)
            have HP := Lib.hid (show ((C.set k y).set m x).Perm L by rw [e1]; exact (perm_step (by omega) (by rw [List.length_set]; exact hkn) hxk hyk).trans hpc)
            have HRY := Lib.hid hRy; have HCN := Lib.hid hcn
            clear hox hxk hpc hRC hR2 hcn hkn hyk hy e1 hRy hB2
            have hki : k < n := by omega
            have HM := Lib.hid hm; clear hm
            go_wp2
            go_roundw
            case rel => exact ⟨m, C.set k y, by have := HM.out; omega, by go_num, by rw [List.length_set]; exact HCN.out, HO.out, HP.out, HRY.out, hBy⟩
            case measure => simp [intOf]; omega
          · have hd : decide (x < y) = false := decide_eq_false hxy
            have HE := Lib.hid (ord_end hox hxk (.inr (by rw [hyk]; omega)))
            have HP := Lib.hid hpc; have HR2 := Lib.hid hR2; have HCN := Lib.hid hcn
            clear hox hxk hpc hRC hR2 hcn hkn hyk hy
            have hki : k < n := by omega
            have HM := Lib.hid hm; clear hm
            go_wp2
            go_roundw
            case rel => exact ⟨i + 1, C.set k x, by omega, by omega, by go_num, by rw [List.length_set]; exact HCN.out, HP.out.trans HPM.out, HE.out, HR2.out, hB2⟩
            case measure => simp [intOf]; omega
    · obtain rfl : i = n := by omega
      have hlt' : decide ((i : Int) < (i : Int)) = false := by rw [decide_eq_false_iff_not]; omega
      go_wp2
      go_ret
      exact ⟨some ⟨g, 0, none⟩, lc, L, by rw [hln]; rfl, hR.cells, hpm, pair_of (by rw [hln]; exact hord), hB⟩

end Go.Proofs.Ytnkfopnkgingpaa
