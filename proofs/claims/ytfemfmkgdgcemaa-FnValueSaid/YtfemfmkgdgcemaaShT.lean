
/-
  Values of sheets: what the law of values asks of its two sides.
-/
import Derived.Test.YtfemfmkgdgcemaaShR
import Derived.Test.YtfemfmkgdgcemaaShK
import Derived.Test.YtfemfmkgdgcemaaShF
import Derived.Test.YtfemfmkgdgcemaaShP
import Derived.Test.YtfemfmkgdgcemaaShQ
namespace Go.Proofs.Ytfemfmkgdgcemaa
open Go.RowKit

theorem val_kinds {ws hs vs : List Int} (h : kindsB ws hs vs = true) : ∃ (a c v : Nat) (K : List (Nat × Nat × Nat)), kindsN ws hs vs ws.length = (a, c, v) :: K ∧ (∃ l, ws = (a : Int) :: l) ∧ (∃ l, hs = (c : Int) :: l) ∧ (∃ l, vs = (v : Int) :: l) ∧
    (1 ≤ a ∧ a ≤ 12 ∧ 1 ≤ c ∧ c ≤ 12 ∧ v ≤ 99) ∧ ∀ k ∈ (a, c, v) :: K, kdOk k := by
  obtain ⟨⟨h1, _, h3, h4⟩, hall⟩ := kindsB_all h
  have hok := kindsN_ok hall
  obtain ⟨hk, e1, e2, e3⟩ := kindB_ok (hall 0 h1)
  obtain ⟨x, ws', rfl⟩ : ∃ x l, ws = x :: l := by cases ws with | nil => simp at h1 | cons x l => exact ⟨x, l, rfl⟩
  obtain ⟨y, hs', rfl⟩ : ∃ x l, hs = x :: l := by cases hs with | nil => simp at h3 | cons x l => exact ⟨x, l, rfl⟩
  obtain ⟨z, vs', rfl⟩ : ∃ x l, vs = x :: l := by cases vs with | nil => simp at h4 | cons x l => exact ⟨x, l, rfl⟩
  have hn : kindsN (x :: ws') (y :: hs') (z :: vs') (x :: ws').length = kindN (x :: ws') (y :: hs') (z :: vs') 0 :: ((List.range ws'.length).map Nat.succ).map (kindN (x :: ws') (y :: hs') (z :: vs')) := by
    unfold kindsN
    rw [List.length_cons, List.range_succ_eq_map, List.map_cons]
  rw [hn] at hok
  refine ⟨(kindN (x :: ws') (y :: hs') (z :: vs') 0).1, (kindN (x :: ws') (y :: hs') (z :: vs') 0).2.1, (kindN (x :: ws') (y :: hs') (z :: vs') 0).2.2, _, hn, ⟨ws', ?_⟩, ⟨hs', ?_⟩, ⟨vs', ?_⟩, ?_, hok⟩
  · rw [← e1]; rfl
  · rw [← e2]; rfl
  · rw [← e3]; rfl
  · obtain ⟨k1, k2, k3, k4, k5⟩ := hk
    exact ⟨k1, k2, k3, k4, k5⟩
/-- the value of a drawn sheet, either way round, and its first kind alone -/
theorem val_facts {ws hs vs : List Int} (h : kindsB ws hs vs = true) {x y : Nat} (hx1 : 1 ≤ x) (hx2 : x ≤ 12) (hy1 : 1 ≤ y) (hy2 : y ≤ 12) : ∃ (a c v : Nat) (t m : Int),
    ((∃ l, ws = (a : Int) :: l) ∧ (∃ l, hs = (c : Int) :: l) ∧ (∃ l, vs = (v : Int) :: l)) ∧ (valO x y ws hs vs = t ∧ valO y x ws hs vs = t ∧ mostO x y a c = m) ∧ shB (a : Int) (c : Int) = true ∧ v ≤ 99 ∧ (0 ≤ m ∧ m ≤ 144) ∧ (0 ≤ m * (v : Int) ∧ m * (v : Int) ≤ t) ∧ (0 ≤ t ∧ t ≤ 400000) := by
  obtain ⟨a, c, v, K, hK, ha, hc, hv, ⟨a1, a2, c1, c2, v1⟩, hok⟩ := val_kinds h
  have h1 := shB_nat hx1 hx2 hy1 hy2
  have h2 := shB_nat hy1 hy2 hx1 hx2
  have h3 := shB_nat a1 a2 c1 c2
  refine ⟨a, c, v, tabC opG (worthV ((a, c, v) :: K)) x y, mostN a c x y, ⟨ha, hc, hv⟩, ⟨?_, ?_, ?_⟩, h3, v1, ?_, ?_, ?_⟩
  · simp only [valO, h1, h, hK, Bool.and_self, if_true, Int.toNat_natCast]
  · simp only [valO, h2, h, hK, Bool.and_self, if_true, Int.toNat_natCast]
    exact valT_flip _ hy1 hx1
  · simp only [mostO, h1, h3, Bool.and_self, if_true, Int.toNat_natCast]
  · obtain ⟨m1, m2, _⟩ := most_facts a1 c1 hx2 hy2 hx1 hy1
    exact ⟨m1, m2⟩
  · obtain ⟨m1, m2, _⟩ := most_facts a1 c1 hx2 hy2 hx1 hy1
    exact ⟨Int.mul_nonneg m1 (Int.natCast_nonneg _), valT_first a c v K hok hx1 hy1⟩
  · have hv := (valT_bd hok x y hx2 hy2 hx1 hy1).2
    obtain ⟨m1, m2, _⟩ := most_facts a1 c1 hx2 hy2 hx1 hy1
    have h5 : 0 ≤ mostN a c x y * (v : Int) := Int.mul_nonneg m1 (Int.natCast_nonneg _)
    have h6 := valT_first a c v K hok hx1 hy1
    omega
theorem implValK (w h : Int) (ao bo co : Option Addr) (ka kb kc k : Nat) (ws hs vs : List Int) (W : World) (hk : k ≤ 5) (h1 : ws.length = k) (h2 : hs.length = k) (h3 : vs.length = k) (ca : CellsAt W ao (ws.map (Value.int .i64))) (cb : CellsAt W bo (hs.map (Value.int .i64))) (cc : CellsAt W co (vs.map (Value.int .i64))) :
    Calls Try.prog 26 #[.int .i64 w, .int .i64 h, .slice ao k ka, .slice bo k kb, .slice co k kc] W fun e W' =>
      e = .returned (.tuple #[.int .i64 (valO w h ws hs vs), .bool (shB w h && kindsB ws hs vs)]) ∧ Below W.heap.size W W' := by
  have := implSheetValue_any w h ao bo co ka kb kc ws hs vs W (by omega) ca cb cc
  rw [h1, h2, h3] at this
  exact this
theorem specValK (w h : Int) (ao bo co : Option Addr) (ka kb kc k : Nat) (ws hs vs : List Int) (W : World) (hk : k ≤ 5) (h1 : ws.length = k) (h2 : hs.length = k) (h3 : vs.length = k) (ca : CellsAt W ao (ws.map (Value.int .i64))) (cb : CellsAt W bo (hs.map (Value.int .i64))) (cc : CellsAt W co (vs.map (Value.int .i64))) :
    Calls Try.prog 27 #[.int .i64 w, .int .i64 h, .slice ao k ka, .slice bo k kb, .slice co k kc] W fun e W' =>
      e = .returned (.tuple #[.int .i64 (valO w h ws hs vs), .bool (shB w h && kindsB ws hs vs)]) ∧ Below W.heap.size W W' := by
  have := specSheetValue_any w h ao bo co ka kb kc ws hs vs W (by omega) ca cb cc
  rw [h1, h2, h3] at this
  exact this

end Go.Proofs.Ytfemfmkgdgcemaa
