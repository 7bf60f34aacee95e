
/-
  The permutations that are drawn. (Walks.)
-/
import Derived.Test.YtkpjlglfhhdcbaaPick
import Derived.Maps.AppendAt
import Derived.WideShapes
import Derived.OrdersHeld
namespace Go.Proofs.Ytkpjlglfhhdcbaa
open Go.WideShapes Go.RowKit

theorem d_info : (Try.prog.info? 3).map (fun i => (i.zero, i.size, i.bytes)) = some (some (.int .i64 0), 1, 8) := by kernel_rfl
theorem d_go {P : Program} {ops : Array Oper} {Q : Exit → Act → World → Prop} {i : Nat} {o : Oper} {K : Act → World → Prop} {a : Act} {w : World} (hi : ops[i]? = some o) (hw : Region.wanted o (yielded ops a.tmps) = true) (h : o.wp P a w K Q) : wpOp P ops Q i K a w := by
  unfold wpOp
  simp only [hi, hw, if_true]
  exact .inl h
theorem d_one (l : List Int) : ∀ v ∈ l.map (Value.int .i64), v.oneCell' = true := fun v hv => by
  obtain ⟨_, _, rfl⟩ := List.mem_map.1 hv
  rfl
/-- numbers are put behind numbers of the call's own: a single operation -/
theorem wp_pushS {w : World} {o : Oper} {a : Act} {K : Act → World → Prop} {Q : Exit → Act → World → Prop} (s x : Operand)
    (ho : o.op = .call { callee := .builtin .append, args := #[s, x], argTypes := #[22, 22] })
    (base g0 n cap : Nat) (xs : List Int) (hs : a.eval s = .slice (some ⟨g0, 0, none⟩) n cap) (hown : w.ownsRow base 3 1 (.slice (some ⟨g0, 0, none⟩) n cap) n (xs.map (Value.int .i64)))
    (us : List Int) (m N : Nat) (hN : n + m = N) (ad : Addr) (c : Nat) (hx : a.eval x = .slice (some ad) m c) (hl : us.length = m) (hu : ∀ j v, (us.map (Value.int .i64))[j]? = some v → w.cell? (ad.add j) = some v) (h63 : N ≤ 100) (hbase : base ≤ w.heap.size)
    (h : ∀ g' cap' w', w'.ownsRow base 3 1 (.slice (some ⟨g', 0, none⟩) N cap') N ((xs ++ us).map (Value.int .i64)) → w.grownBy w' (some g0) → (g' = g0 ∨ w.heap.size ≤ g') → K (a.put o.dst (.slice (some ⟨g', 0, none⟩) N cap')) w') : o.wp Try.prog a w K Q := by
  obtain ⟨i, hi, hz, h1, h2⟩ := info_parts d_info
  subst hN
  obtain ⟨v', w', hr, r2, r3, r4, r5⟩ := run_append_own_at (P := Try.prog) w base 22 o.type 3 i (.int .i64 0) 1 8 Try.underlying22 hi hz h1 h2 rfl (by decide) (.slice (some ⟨g0, 0, none⟩) n cap) n (xs.map (Value.int .i64)) hown ad m c (us.map (Value.int .i64)) (by simp; omega) hu (d_one us) (by unfold maxLen; omega) (by omega) hbase
  have hsome : ∃ g' cap', v' = .slice (some ⟨g', 0, none⟩) (n + m) cap' := by
    rcases r2.2 with ⟨hv, _⟩ | ⟨g, cap2, cur, hv, _⟩
    · have := (r4.1 hv).1
      cases this
    · exact ⟨g, cap2, hv⟩
  obtain ⟨g', cap', rfl⟩ := hsome
  rw [← List.map_append] at r2
  unfold Oper.wp execOp
  simp only [ho, resolve, invoke, builtin, Sem.run_bind, Sem.run_pure, Result.andThen_ok, List.map_toArray, List.map_cons, List.map_nil, hs, hx, hr]
  refine h g' cap' w' r2 r3 ?_
  rcases r5 with e | e
  · left; simpa [Value.ownBlock] using e
  · right
    have : g' = w.heap.size := by simpa [Value.ownBlock] using e
    omega

theorem d_cap {w : World} {base g n c : Nat} {xs : List Value} (h : w.ownsRow base 3 1 (.slice (some ⟨g, 0, none⟩) n c) n xs) : n ≤ c ∧ c ≤ maxLen := by
  rcases h.2 with ⟨hv, _⟩ | ⟨g', cap, cur, hv, _, _, h1, h2, _⟩
  · cases hv
  · simp only [Value.slice.injEq] at hv
    obtain ⟨_, _, rfl⟩ := hv
    exact ⟨h1, h2⟩
/-- what a slice from a place on is -/
theorem d_tail {i g k rc : Nat} (hk : k ≤ i) (hi : i ≤ rc) : ∃ X : Addr, (∀ w, (Instr.sliceAt 22 (.slice (some ⟨g, 0, none⟩) i rc) (some (.int .i64 (k : Int))) none none).run Try.prog w = .ok (.slice (some X) (i - k) (rc - k)) w) ∧ ∀ (w : World) (l : List Int), l.length = i → CellsAt w (some ⟨g, 0, none⟩) (l.map (Value.int .i64)) → ∀ j v, ((l.drop k).map (Value.int .i64))[j]? = some v → w.cell? (X.add j) = some v := by
  by_cases hc : rc = k
  · refine ⟨⟨g, 0, none⟩, fun w => ?_, fun w l hl h j v hj => ?_⟩
    · obtain rfl : i = k := by omega
      subst hc
      go_simp
    · rw [List.drop_of_length_le (by omega)] at hj
      cases hj
  · refine ⟨⟨g, k, none⟩, fun w => ?_, fun w l hl h j v hj => ?_⟩
    · have h1 : (k : Int) ≤ (i : Int) := by omega
      have h2 : (k : Int) ≤ (rc : Int) := by omega
      have h3 : ¬ rc = k := hc
      go_simp
    · rw [List.map_drop, List.getElem?_drop] at hj
      obtain ⟨b, off, e, hcc⟩ := h _ _ hj
      cases e
      rw [add_plain]
      rw [Nat.zero_add] at hcc
      exact hcc
theorem d_elem {W : World} {U : Nat} {x : Int} (h : HeldB W U 3 #[.int .i64 x]) : ∀ j v, (([x] : List Int).map (Value.int .i64))[j]? = some v → W.cell? ((⟨U, 0, none⟩ : Addr).add j) = some v := fun j v hj => by
  cases j with
  | zero => rw [add_plain]; exact (h.cell 0).trans hj
  | succ j => simp at hj
theorem d_take {W : World} {g k : Nat} {l : List Int} (h : CellsAt W (some ⟨g, 0, none⟩) (l.map (Value.int .i64))) : ∀ j v, ((l.take k).map (Value.int .i64))[j]? = some v → W.cell? ((⟨g, 0, none⟩ : Addr).add j) = some v := fun j v hj => by
  rw [List.map_take, List.getElem?_take] at hj
  split at hj
  · obtain ⟨b, off, e, hc⟩ := h j v hj
    cases e
    rw [add_plain]; exact hc
  · cases hj
theorem d_grown {w w1 w2 : World} {B : Nat} (h : w.grownBy w1 (some B)) (hb : Below w1.heap.size w1 w2) : w.grownBy w2 (some B) := grownBy_trans h (grownBy_of_below hb _)
end Go.Proofs.Ytkpjlglfhhdcbaa
